/-
  CycleRefused.
-/
import Derived.Test.YtkabjecdbkbpaaaSa
namespace Go.Proofs.Ytkabjecdbkbpaaa
open Go.RowKit Go.Shelf Cy

def n10 (n : Int) : Int := if 10 < n ∧ n ≤ 32 then 10 else n
theorem n10_is {n : Int} (n0 : -9223372036854775808 ≤ n) (n1 : n ≤ 9223372036854775807) : Fits (n10 n) := by
  unfold n10 Fits; split <;> omega
theorem all_snoc {f : Arc → Bool} {L : List Arc} {k : Nat} (h : k < L.length) : (L.take (k + 1)).all f = ((L.take k).all f && f L[k]) := by
  rw [List.take_succ_eq_append_getElem h, List.all_append]; simp
theorem valid_is (n : Int) {L : List Arc} (h : L.length ≤ 5) : valid n L = (Cy.within n 1 32 && L.all (okArc n)) := by
  unfold valid; rw [decide_eq_true (by omega : L.length ≤ 200), Bool.and_true]
theorem rf_lv {n p : Int} (hn : Fits n) {L : List Arc} (h : (valid n L && isPer p) = false) {a : Option Addr} {c : Nat} {w : World} (hA : ArcA w a c L) (hS4 : ∀ x, a = some x → x.block < w.heap.size) :
    Calls Try.prog 14 #[.int .i64 n, .slice a L.length c, .int .i64 p] w fun e w' => ∃ sa sc ca cc, e = .returned (.tuple #[.slice sa 0 sc, .slice ca 0 cc, .bool false]) ∧ Below w.heap.size w w' :=
  (lv_any n p hn L a c w hA hS4).mono fun e w' ⟨sa, sc, ca, cc, he, _, _, hb⟩ => by
    obtain ⟨e1, e2, e3⟩ := lv_no h
    exact ⟨sa, sc, ca, cc, by rw [he, e1, e2, e3]; rfl, hb⟩
theorem rf_sm {n p : Int} (hn : Fits n) {L : List Arc} (h : (valid n L && isPer p) = false) {a : Option Addr} {c : Nat} {w : World} (hA : ArcA w a c L) (hS4 : ∀ x, a = some x → x.block < w.heap.size) :
    Calls Try.prog 23 #[.int .i64 n, .slice a L.length c, .int .i64 p, .int .i64 p] w fun e w' => e = .returned (.tuple #[.int .i64 0, .bool false]) ∧ Below w.heap.size w w' :=
  (Smallest_any n p p hn L a c w hA hS4).mono fun e w' ⟨q, f, he, hb, h1, _⟩ => by
    obtain ⟨rfl, rfl⟩ := h1 (by rw [Bool.and_self]; exact h)
    exact ⟨he, hb⟩
theorem rf_ve {n p : Int} (hn : Fits n) {L : List Arc} (h : (valid n L && isPer p) = false) {a : Option Addr} {c : Nat} {s : List Int} {sa : Option Addr} {sc : Nat} {w : World} (hA : ArcA w a c L) (hS : IntsA w sa sc s) (hS4 : ∀ x, a = some x → x.block < w.heap.size) :
    Calls Try.prog 19 #[.int .i64 n, .slice a L.length c, .int .i64 p, .slice sa s.length sc] w fun e w' => e = .returned (.bool false) ∧ Below w.heap.size w w' :=
  (Verify_any n p hn L a c s sa sc w hA hS hS4).mono fun e w' ⟨he, hb⟩ => ⟨by rw [he]; unfold verB; rw [h]; rfl, hb⟩
theorem rf_re {n p : Int} (hn : Fits n) {L : List Arc} (h : (valid n L && isPer p) = false) (hp : Fits p) {a : Option Addr} {c : Nat} {s : List Int} {sa : Option Addr} {sc : Nat} {w : World} (hA : ArcA w a c L) (hS : IntsA w sa sc s) :
    Calls Try.prog 21 #[.int .i64 n, .slice a L.length c, .int .i64 p, .slice sa s.length sc] w fun e w' => e = .returned (.bool false) ∧ Below w.heap.size w w' :=
  (Refutes_any n p hn hp L a c s sa sc w hA hS).mono fun e w' ⟨he, hb⟩ => ⟨by rw [he]; unfold refB; rw [h]; rfl, hb⟩
set_option maxRecDepth 100000 in
set_option maxHeartbeats 4000000 in
theorem refused_any (n : Int) (aa : Option Addr) (ac : Nat) (L : List Arc) (p : Int) (ma : Option Addr) (mc : Nat) (M : List Int) (W : World) (n0 : -9223372036854775808 ≤ n) (n1 : n ≤ 9223372036854775807) (wA : ArcA W aa ac L) (xA : (∀ b ∈ L, ArcFit b) ∧ ∀ x, aa = some x → x.block < W.heap.size)
    (p0 : -9223372036854775808 ≤ p) (p1 : p ≤ 9223372036854775807) (wM : IntsA W ma mc M) (_ : ∀ b ∈ M, Fits b) :
    Calls Try.prog 10 #[.int .i64 n, .slice aa L.length ac, .int .i64 p, .slice ma M.length mc] W fun e w' => e = .returned (.bool true) ∧ Below W.heap.size W w' := by
  have HSa := Lib.hid (sane_any W)
  have HX := Lib.hid xA.2
  clear xA
  have hl := wA.len; have hm := wM.len
  have hl1 := wA.1; have hl2 := wA.2.1; have hm1 := wM.1; have hm2 := wM.2.1
  unfold maxLen at hl hm hl2 hm2
  go_enter Try.func10, Try.ntmps10
  go_wp2_with fail
  refine HSa.out.mono ?_
  rintro _ w1 ⟨rfl, b1⟩
  have B1 := Lib.hid b1
  clear b1 HSa
  have HZ1 := Lib.hid (show (min (L.length : Int) 5).toNat = (L.take 5).length by rw [List.length_take]; omega)
  have HZ2 := Lib.hid (show (min (M.length : Int) 8).toNat = (M.take 8).length by rw [List.length_take]; omega)
  have HA := Lib.hid (wA.take 5); have HM := Lib.hid (wM.take 8)
  have hL5 : (L.take 5).length ≤ 5 := by rw [List.length_take]; omega
  have hN := n10_is n0 n1
  have hs1 : 0 ≤ min (L.length : Int) 5 ∧ min (L.length : Int) 5 ≤ (ac : Int) := by omega
  have hs2 : 0 ≤ min (M.length : Int) 8 ∧ min (M.length : Int) 8 ≤ (mc : Int) := by omega
  clear wA wM hl hm hl1 hl2 hm1 hm2
  have hcase : (n ≤ 10 ∧ ¬ 10 < n ∧ n10 n = n) ∨ (10 < n ∧ n ≤ 32 ∧ n10 n = 10) ∨ (10 < n ∧ ¬ n ≤ 32 ∧ n10 n = n) := by
    unfold n10; split <;> omega
  rcases hcase with ⟨hc1, hc2, hT⟩ | ⟨hc1, hc2, hT⟩ | ⟨hc1, hc2, hT⟩
  all_goals
      have HT := Lib.hid hT
      clear hT
      go_upto_region 6 with (fail)
      go_cut [0, 1, 3, 10] (fun s0 s1 s3 s10 wx => s0 = .int .i64 (n10 n) ∧ s1 = .slice aa (L.take 5).length ac ∧ s3 = .slice ma (M.take 8).length mc ∧ s10 = .bool (Cy.within (n10 n) 1 32) ∧ Hid (wx = w1))
      case first =>
        go_wp2_with fail
        all_goals
          go_meet
          refine ⟨by rw [HT.out], by rw [HZ1.out], by rw [HZ2.out], ?_, Lib.hid rfl⟩
          rw [HT.out]
          unfold Cy.within
          simp
          try omega
      case rest =>
        obtain ⟨rfl, rfl, rfl, rfl, HW1⟩ := hcut
        obtain rfl := HW1.out
        clear HW1 HZ1 HZ2 HT hs1 hs2 hc1 hc2 n0 n1
        generalize L.take 5 = L at *
        generalize M.take 8 = M at *
        generalize n10 n = n at *
        have HAs := Lib.hid (fun (k : Nat) (h : k < L.length) => all_snoc (f := okArc n) h)
        have HVa := Lib.hid (valid_is n hL5)
        generalize Cy.within n 1 32 = G at *
        go_wp2_with fail
        go_loopw [10, 11] (fun g i wr => ∃ k : Nat, k ≤ L.length ∧ i = .int .i64 (k : Int) ∧ g = .bool (G && (L.take k).all (okArc n)) ∧ Hid (Below W.heap.size W wr)) (fun _ i _ => L.length - (intOf i).toNat)
        case atStart => exact ⟨0, Nat.zero_le _, rfl, by simp, B1⟩
        case round =>
          obtain ⟨k, hk, rfl, rfl, HB⟩ := hrel
          by_cases hlt : k < L.length
          · obtain ⟨b, off, rfl, hb, hc⟩ := (HA.out.below HB.out).at (by omega)
            obtain ⟨x0, x1, x2, x3⟩ := arc_cells (hc k hlt)
            have HS := Lib.hid (HAs.out k hlt)
            have k0 : (0 : Int) ≤ (k : Int) := by omega
            have k1 : (k : Int) < (L.length : Int) := by omega
            clear hc
            generalize L[k] = x at *
            generalize (L.take k).all (okArc n) = A at *
            obtain ⟨f, t, g, q⟩ := x
            simp only at x0 x1 x2 x3
            generalize hZ : (G && A) = Z at *
            have HZ := Lib.hid hZ
            have HS2 := Lib.hid (show (G && (List.take (k + 1) L).all (okArc n)) = (Z && okArc n ⟨f, t, g, q⟩) by rw [HS.out, ← Bool.and_assoc, hZ])
            clear hZ HS
            have HBx := Lib.hid (below_step HB.out (below_new wr (arcObj ⟨f, t, g, q⟩)))
            go_upto_region 11 with (fail)
            cases Z
            · go_wp2_with fail
              go_roundw
              case rel => exact ⟨k + 1, hlt, by go_num, by rw [HS2.out]; rfl, HBx⟩
              case measure => simp [intOf]; omega
            · by_cases hq : q ≤ 2
              all_goals
                go_wp2_with fail
                all_goals
                  go_roundw
                  case rel =>
                    refine ⟨k + 1, hlt, by go_num, ?_, HBx⟩
                    rw [HS2.out]; unfold okArc Cy.within; simp; try (intros; omega)
                  case measure => simp [intOf]; omega
          · have HV := Lib.hid (show (G && (L.take k).all (okArc n)) = valid n L by rw [HVa.out, List.take_of_length_le (by omega)])
            rw [HV.out]
            have HW1 := Lib.hid (Valid_any n hN L aa ac wr (HA.out.below HB.out))
            have HLv := Lib.hid (fun (h : (valid n L && isPer p) = false) (W' : World) (hb : Below W.heap.size W W') => rf_lv hN h (HA.out.below hb) (fun x hx => Nat.lt_of_lt_of_le (HX.out x hx) hb.size))
            have HSm := Lib.hid (fun (h : (valid n L && isPer p) = false) (W' : World) (hb : Below W.heap.size W W') => rf_sm hN h (HA.out.below hb) (fun x hx => Nat.lt_of_lt_of_le (HX.out x hx) hb.size))
            have HVe := Lib.hid (fun (h : (valid n L && isPer p) = false) (W' : World) (hb : Below W.heap.size W W') => rf_ve hN h (HA.out.below hb) (HM.out.below hb) (fun x hx => Nat.lt_of_lt_of_le (HX.out x hx) hb.size))
            have HRe := Lib.hid (fun (h : (valid n L && isPer p) = false) (W' : World) (hb : Below W.heap.size W W') => rf_re hN h ⟨p0, p1⟩ (HA.out.below hb) (HM.out.below hb))
            have k1 : ¬ (k : Int) < (L.length : Int) := by omega
            have hcase : valid n L = false ∨ (valid n L = true ∧ p < -1000000) ∨ (valid n L = true ∧ -1000000 ≤ p ∧ 1000000 < p) ∨ (valid n L = true ∧ -1000000 ≤ p ∧ p ≤ 1000000) := by
              cases valid n L
              · exact .inl rfl
              · right; simp; omega
            clear HV HVa HAs hN HX
            rcases hcase with hv | ⟨hv, hp⟩ | ⟨hv, hp, hp2⟩ | ⟨hv, hp, hp2⟩
            iterate 3
              · have hz : (valid n L && isPer p) = false := by
                  first
                    | rw [hv]; rfl
                    | rw [hv]; unfold isPer Cy.within; simp; try omega
                have HLv := Lib.hid (HLv.out hz); have HSm := Lib.hid (HSm.out hz); have HVe := Lib.hid (HVe.out hz); have HRe := Lib.hid (HRe.out hz)
                clear hz
                rw [hv] at HW1 ⊢
                clear hv
                go_wp2_with fail
                refine HW1.out.mono ?_
                rintro _ w2 ⟨rfl, b2⟩
                have B2 := Lib.hid (below_step HB.out b2)
                clear b2 HW1 HB
                go_wp2_with fail
                refine (HLv.out w2 B2.out).mono ?_
                rintro _ w3 ⟨sa, sc, ca, cc, rfl, b3⟩
                have B3 := Lib.hid (below_step B2.out b3)
                clear b3 HLv B2
                go_wp2_with fail
                refine (HSm.out w3 B3.out).mono ?_
                rintro _ w4 ⟨rfl, b4⟩
                have B4 := Lib.hid (below_step B3.out b4)
                clear b4 HSm B3
                go_wp2_with fail
                refine (HVe.out w4 B4.out).mono ?_
                rintro _ w5 ⟨rfl, b5⟩
                have B5 := Lib.hid (below_step B4.out b5)
                clear b5 HVe B4
                go_wp2_with fail
                refine (HRe.out w5 B5.out).mono ?_
                rintro _ w6 ⟨rfl, b6⟩
                have B6 := Lib.hid (below_step B5.out b6)
                clear b6 HRe B5
                go_wp2_with fail
                go_ret
                exact ⟨rfl, B6.out⟩
            · clear HLv HSm HVe HRe
              rw [hv] at HW1 ⊢
              clear hv
              go_wp2_with fail
              refine HW1.out.mono ?_
              rintro _ w2 ⟨rfl, b2⟩
              have B2 := Lib.hid (below_step HB.out b2)
              clear b2 HW1 HB
              go_wp2_with fail
              go_ret
              exact ⟨rfl, B2.out⟩
end Go.Proofs.Ytkabjecdbkbpaaa
