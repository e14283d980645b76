/-
  The walk of CalendarOrder.
-/
import Derived.Test.YtealfgeeigffbaaOff
import Derived.Test.YtealfgeeigffbaaOpen
import Derived.Laws.AppendOwnNone
import Derived.BigRegion
namespace Go.Proofs.Ytealfgeeigffbaa
open Go.RowKit Go.Shelf

theorem tdiv_fits {x : Int} (h : Fits x) : Fits (x.tdiv 40) := by
  have := Int.natAbs_tdiv x 40
  have h2 : x.natAbs / (40 : Int).natAbs ≤ x.natAbs := Nat.div_le_self _ _
  unfold Fits at *
  have h3 : (x.tdiv 40).natAbs ≤ x.natAbs / 40 := by rw [this]; exact Nat.le_refl _
  omega
theorem BkOwn.cellsZ {w : World} {B c g : Nat} {l : List Kal.Bk} (h : BkOwn w B (.slice (some ⟨g, 0, none⟩) l.length c) l) (i : Nat) (hi : i < l.length) : w.cell? ⟨g, i * 4, none⟩ = some (.int .i64 l[i].tool) ∧ w.cell? ⟨g, i * 4 + 1, none⟩ = some (.int .i64 l[i].s) ∧ w.cell? ⟨g, i * 4 + 2, none⟩ = some (.int .i64 l[i].e) ∧ w.cell? ⟨g, i * 4 + 3, none⟩ = some (.int .i64 l[i].o) := by
  obtain ⟨a', c', e, h'⟩ := h.form
  injection e with e1 _ e2
  subst e1; subst e2
  obtain ⟨g', off, e, _, hc⟩ := h'.at (by omega)
  injection e with e; injection e with e1 e2 _
  subst e1; subst e2
  have := hc i hi
  simpa using this
theorem BkOwn.bkaZ {w : World} {B c : Nat} {a : Option Addr} {l : List Kal.Bk} (h : BkOwn w B (.slice a l.length c) l) : BkA w a c l := by
  obtain ⟨a', c', e, h'⟩ := h.form
  injection e with e1 _ e2
  subst e1; subst e2; exact h'
theorem equal_ext {C D : Nat} {K K' : Kal.Kal} {W W' w : World} (h : CalIs C K W w) (h' : CalIs D K' W' w) (he : ∀ i, i < 60 → K i = K' i) : Calls Try.prog 31 #[.pointer (some ⟨C, 0, none⟩), .pointer (some ⟨D, 0, none⟩)] w fun e w' => e = .returned (.bool true) ∧ Below w.heap.size w w' := by
  obtain ⟨c, c1, c2, c3⟩ := h
  obtain ⟨d, d1, d2, d3⟩ := h'
  have := equal_any c2 d2
  unfold CalP.ptr at this
  rw [c1, d1, eqK_true.2 he] at this
  exact this
theorem upTo_six {L : List Kal.Bk} (h : ∀ b ∈ L, b.tool < 6) : ∀ k, 6 ≤ k → k ≤ 60 → Kal.upTo (bookAll L) k = Kal.upTo (bookAll L) 6
  | 0, h6, _ => absurd h6 (by omega)
  | k + 1, h6, h60 => by
    by_cases e : k + 1 = 6
    · rw [e]
    · rw [Kal.upTo_succ, upTo_six h k (by omega) (by omega)]
      have : bookAll L k = [] := List.eq_nil_iff_forall_not_mem.2 (fun x hx => by
        have h1 := ((bookAll_ok L).mem k (by omega) x hx).2
        have h2 := h x (mem_bookAll hx)
        omega)
      rw [this, List.append_nil]
set_option maxRecDepth 100000 in
set_option maxHeartbeats 4000000 in
theorem orderLaw_any (a : Option Addr) (c : Nat) (X : List (List Int)) (a2 : Option Addr) (c2 : Nat) (Z : List Int) (W : World) (h : ArrsA 4 W a c X) (h2 : IntA W a2 c2 Z) (hz : ∀ x ∈ Z, Fits x) :
    Calls Try.prog 6 #[.slice a X.length c, .slice a2 Z.length c2] W fun e w' => e = .returned (.bool true) ∧ Below W.heap.size W w' := by
  have H := Lib.hid h; have H2 := Lib.hid h2
  have hLl := someL_len X
  clear h h2
  obtain ⟨i0, hi0, hz0, hz1, hz2⟩ := info_parts info_booking
  go_enter Try.func6, Try.ntmps6
  go_wp2_with fail
  refine (sane_any W).mono ?_; rintro e w1 ⟨rfl, g1⟩
  have G1 := Lib.hid g1; clear g1
  go_wp2_with fail
  refine (some_is X a c H.out G1.out).mono ?_; rintro e w2 ⟨v, rfl, o2, -, g2⟩
  have O2 := Lib.hid o2; have G2 := Lib.hid g2; clear o2 g2
  have HT := Lib.hid (fun b (hb : b ∈ someL X) => (someL_ok hb).2.1)
  generalize someL X = L0 at *
  go_wp2_with fail
  refine (booked_is L0 _ _ O2.out G2.out).mono ?_; rintro e w3 ⟨C, rfl, h3, -⟩
  have H3 := Lib.hid h3; clear h3 O2
  have HOk := Lib.hid (bookAll_ok L0)
  have HAll := Lib.hid (show Kal.upTo (bookAll L0) 6 = Kal.all (bookAll L0) from (upTo_six HT.out 60 (by omega) (Nat.le_refl _)).symm)
  clear HT
  generalize bookAll L0 = K at *
  go_wp2_with fail
  go_loopw [7, 8] (fun vv tv wr => ∃ (t : Nat) (v : Value), t ≤ 6 ∧ v = vv ∧ tv = .int .i64 (t : Int) ∧ Hid (BkOwn wr w3.heap.size v (Kal.upTo K t)) ∧ Hid (Below w3.heap.size w3 wr)) (fun _ tv _ => 6 - (intOf tv).toNat)
  case atStart => exact ⟨0, _, by omega, rfl, rfl, Lib.hid (BkOwn.nil _ _), Lib.hid (Below.refl _ _)⟩
  case round =>
    obtain ⟨t, v, ht, rfl, rfl, HV, HB⟩ := hrel
    rename World => wo
    by_cases h6 : t < 6
    · have htool : Kal.isTool (t : Int) = true := by unfold Kal.isTool; simp; omega
      have HL := list_is (t : Int) (H3.out.below HB.out)
      rw [if_pos htool, Int.toNat_natCast] at HL
      have HL := Lib.hid HL
      have hle := HOk.out.len (i := t) (by omega)
      have hlu := Kal.upTo_len HOk.out t (by omega)
      have HS := Lib.hid (Kal.upTo_succ K t)
      have t1 : (t : Int) < 6 := by omega
      have hw3 := HB.out.size
      clear htool
      go_wp2_with fail
      refine HL.out.mono ?_; rintro e w6 ⟨v6, rfl, o6, g6⟩
      have HOwn := Lib.hid (own_below HV.out g6)
      have HB6 := Lib.hid (HB.out.trans (g6.mono HB.out.size))
      have hw6 := g6.size
      have O6 := Lib.hid o6
      generalize K t = l at *
      clear g6
      rcases o6.2 with ⟨rfl, h0⟩ | ⟨g, cap, cur, rfl, h2, h3, h4, h5, h6', h7⟩
      · have hl0 : l = [] := List.length_eq_zero_iff.1 h0
        rw [hl0, List.append_nil] at HS
        clear o6 h0
        go_wp2_with (at_builtin; refine wpList_append_own_none rfl _ _ 23 rfl w3.heap.size 35 i0 4 Try.underlying23 hi0 _ _ _ rfl HOwn.out rfl ?_)
        go_wp2_with fail
        go_roundw
        case rel => exact ⟨t + 1, _, h6, rfl, by go_num, by rw [HS.out]; exact HOwn, HB6⟩
        case measure => simp [intOf]; omega
      · clear o6 h2 h3 h6' h7
        unfold maxLen at h5
        go_wp2_with (at_builtin; refine wpList_append_own _ rfl _ _ 23 rfl w3.heap.size 35 i0 _ 4 32 Try.underlying23 hi0 hz0 hz1 hz2 rfl (by decide) _ _ _ rfl HOwn.out ⟨g, 0, none⟩ l.length cap (bkRow l) rfl ?c0 ?c1 ?c2 ?c3 ?c4 ?c5 ?_)
        case c0 => exact bkRow_length l
        case c1 => exact O6.out.cells (g := g) rfl
        case c2 => exact fun u hu => bkRow_one u l hu
        case c3 => unfold maxLen; omega
        case c4 => omega
        case c5 => omega
        intro v' w7 hown' hgrow _
        have O7 := Lib.hid (show BkOwn w7 w3.heap.size v' (Kal.upTo K (t + 1)) from by
          rw [HS.out]; unfold BkOwn; rw [List.length_append, bkRow_append]; exact hown')
        have G7 := Lib.hid (HB6.out.grown hgrow (by omega) (fun kk e => (HOwn.out.lt kk e).1))
        clear hown' hgrow
        go_wp2_with fail
        go_roundw
        case rel => exact ⟨t + 1, _, h6, rfl, by go_num, O7, G7⟩
        case measure => simp [intOf]; omega
    · have ht6 : t = 6 := by omega
      rw [show Kal.upTo K t = Kal.all K by rw [ht6]; exact HAll.out] at HV
      have t1 : ¬ (t : Int) < 6 := by omega
      clear ht6
      have hM := Kal.upTo_len HOk.out 60 (Nat.le_refl _)
      have HRe := Lib.hid (fun (R : List Kal.Bk) (hp : R.Perm (Kal.all K)) => rebook_all HOk.out hp)
      have hM : (Kal.all K).length ≤ 60000000 := hM
      obtain ⟨M, hMe⟩ : ∃ M, M = Kal.all K := ⟨_, rfl⟩
      rw [← hMe] at HV HRe hM
      have HMe := Lib.hid hMe
      clear hMe
      obtain ⟨av, cv, rfl, hav⟩ := HV.out.form
      have hcv : M.length ≤ cv ∧ cv ≤ maxLen := ⟨hav.1, hav.2.1⟩
      obtain ⟨hcv1, hcv2⟩ := hcv
      unfold maxLen at hcv2
      clear hav
      have HZ := Lib.hid hz
      clear hz
      go_wp2_with fail
      go_loopw [9] (fun iv wr => ∃ (i : Nat) (R : List Kal.Bk), i ≤ Z.length ∧ i ≤ 60 ∧ iv = .int .i64 (i : Int) ∧ R.length = M.length ∧ Hid (R.Perm M) ∧ Hid (BkOwn wr w3.heap.size (.slice av M.length cv) R) ∧ Hid (Below w3.heap.size w3 wr)) (fun iv _ => 60 - (intOf iv).toNat)
      case atStart => exact ⟨0, M, by omega, by omega, rfl, rfl, Lib.hid (List.Perm.refl _), HV, HB⟩
      case round =>
        obtain ⟨i, R, hi, hi60, rfl, hRl, HP, HR, HBi⟩ := hrel
        rename World => wi
        by_cases hc : (i < Z.length ∧ i < 60) ∧ 0 < M.length
        · obtain ⟨⟨hiz, hi6⟩, hM0⟩ := hc
          obtain ⟨bz, offz, rfl, hbz, hcz⟩ := (H2.out.below (H3.out.below HBi.out).bel).2.2 i hiz
          have hfz := HZ.out Z[i] (List.getElem_mem hiz)
          have P1 := Lib.hid (fun w => pick_any Z[i] (M.length : Int) w hfz (by omega))
          have P2 := Lib.hid (fun w => pick_any (Z[i].tdiv 40) (M.length : Int) w (tdiv_fits hfz) (by omega))
          have b1 := pickZ_bd (c := Z[i]) (n := (M.length : Int)) (by omega)
          have b2 := pickZ_bd (c := Z[i].tdiv 40) (n := (M.length : Int)) (by omega)
          have i0' : (0 : Int) ≤ (i : Int) := by omega
          have i1 : (i : Int) < (Z.length : Int) := by omega
          have i2 : (i : Int) < 60 := by omega
          have i3 : (0 : Int) < (M.length : Int) := by omega
          generalize Z[i] = x at *
          have dq : IntKind.i64.wrap (x.tdiv 40) = x.tdiv 40 := IntWalk.i64_in _ (tdiv_fits hfz)
          obtain ⟨A, hA⟩ : ∃ A : Nat, pickZ x (M.length : Int) = (A : Int) := ⟨(pickZ x (M.length : Int)).toNat, by omega⟩
          obtain ⟨B, hB⟩ : ∃ B : Nat, pickZ (x.tdiv 40) (M.length : Int) = (B : Int) := ⟨(pickZ (x.tdiv 40) (M.length : Int)).toNat, by omega⟩
          rw [hA] at P1 b1
          rw [hB] at P2 b2
          have hAl : A < R.length := by omega
          have hBl : B < R.length := by omega
          clear hA hB
          go_wp2_with fail
          refine (P1.out _).mono ?_; rintro e w' ⟨rfl, rfl⟩
          go_wp2_with fail
          refine (P2.out _).mono ?_; rintro e w' ⟨rfl, rfl⟩
          have hR' := HR.out
          rw [← hRl] at hR'
          rcases hR'.2 with ⟨_, h0⟩ | ⟨g, cap, cur, e, q2, q3, -⟩
          · omega
          injection e with e1 _ e2
          subst e1; subst e2
          obtain ⟨x0, x1, x2, x3⟩ := BkOwn.cellsZ hR' A hAl
          obtain ⟨y0, y1, y2, y3⟩ := BkOwn.cellsZ hR' B hBl
          have z := fun k => box_fz q3 k
          have hput1 := own_put hR' A hAl R[B]
          rw [show R.length = (R.set A R[B]).length by rw [List.length_set]] at hput1
          have hput2 := own_put hput1 B (by rw [List.length_set]; exact hBl) R[A]
          have hpm : ((R.set A R[B]).set B R[A]).Perm M := (List.set_set_perm hAl hBl).trans HP.out
          have hln : ((R.set A R[B]).set B R[A]).length = M.length := by rw [List.length_set, List.length_set, hRl]
          rw [List.length_set, hRl] at hput2
          generalize (R.set A R[B]).set B R[A] = R2 at *
          have a0 : (A : Int) < (M.length : Int) := b1.2
          have a1 : (B : Int) < (M.length : Int) := b2.2
          have HPut := Lib.hid hput2
          have HPm := Lib.hid hpm
          generalize R[A] = xa at *
          generalize R[B] = xb at *
          clear hput1 hput2 hpm hR' q3
          go_wp2_with fail
          obtain ⟨u0, f0⟩ := cell?_setCell_some (w := wi) (p := ⟨g, A * 4, none⟩) (x := .int .i64 xb.tool) (q := ⟨g, B * 4, none⟩) y0
          obtain ⟨u10, e10⟩ := cell?_setCell_some (w := wi) (p := ⟨g, A * 4, none⟩) (x := (.int .i64 xb.tool)) (q := ⟨g, B * 4 + 1, none⟩) y1
          obtain ⟨u11, f1⟩ := cell?_setCell_some (w := (wi.setCell ⟨g, A * 4, none⟩ (.int .i64 xb.tool))) (p := ⟨g, A * 4 + 1, none⟩) (x := (.int .i64 xb.s)) (q := ⟨g, B * 4 + 1, none⟩) e10
          obtain ⟨u20, e20⟩ := cell?_setCell_some (w := wi) (p := ⟨g, A * 4, none⟩) (x := (.int .i64 xb.tool)) (q := ⟨g, B * 4 + 2, none⟩) y2
          obtain ⟨u21, e21⟩ := cell?_setCell_some (w := (wi.setCell ⟨g, A * 4, none⟩ (.int .i64 xb.tool))) (p := ⟨g, A * 4 + 1, none⟩) (x := (.int .i64 xb.s)) (q := ⟨g, B * 4 + 2, none⟩) e20
          obtain ⟨u22, f2⟩ := cell?_setCell_some (w := ((wi.setCell ⟨g, A * 4, none⟩ (.int .i64 xb.tool)).setCell ⟨g, A * 4 + 1, none⟩ (.int .i64 xb.s))) (p := ⟨g, A * 4 + 2, none⟩) (x := (.int .i64 xb.e)) (q := ⟨g, B * 4 + 2, none⟩) e21
          obtain ⟨u30, e30⟩ := cell?_setCell_some (w := wi) (p := ⟨g, A * 4, none⟩) (x := (.int .i64 xb.tool)) (q := ⟨g, B * 4 + 3, none⟩) y3
          obtain ⟨u31, e31⟩ := cell?_setCell_some (w := (wi.setCell ⟨g, A * 4, none⟩ (.int .i64 xb.tool))) (p := ⟨g, A * 4 + 1, none⟩) (x := (.int .i64 xb.s)) (q := ⟨g, B * 4 + 3, none⟩) e30
          obtain ⟨u32, e32⟩ := cell?_setCell_some (w := ((wi.setCell ⟨g, A * 4, none⟩ (.int .i64 xb.tool)).setCell ⟨g, A * 4 + 1, none⟩ (.int .i64 xb.s))) (p := ⟨g, A * 4 + 2, none⟩) (x := (.int .i64 xb.e)) (q := ⟨g, B * 4 + 3, none⟩) e31
          obtain ⟨u33, f3⟩ := cell?_setCell_some (w := (((wi.setCell ⟨g, A * 4, none⟩ (.int .i64 xb.tool)).setCell ⟨g, A * 4 + 1, none⟩ (.int .i64 xb.s)).setCell ⟨g, A * 4 + 2, none⟩ (.int .i64 xb.e))) (p := ⟨g, A * 4 + 3, none⟩) (x := (.int .i64 xb.o)) (q := ⟨g, B * 4 + 3, none⟩) e32
          clear e10 e20 e21 e30 e31 e32
          go_region
          have G8 := Lib.hid (Below.drew ((((((((HBi.out.setCell (p := ⟨g, A * 4, none⟩) q2 (.int .i64 xb.tool)).setCell (p := ⟨g, A * 4 + 1, none⟩) q2 (.int .i64 xb.s)).setCell (p := ⟨g, A * 4 + 2, none⟩) q2 (.int .i64 xb.e)).setCell (p := ⟨g, A * 4 + 3, none⟩) q2 (.int .i64 xb.o)).setCell (p := ⟨g, B * 4, none⟩) q2 (.int .i64 xa.tool)).setCell (p := ⟨g, B * 4 + 1, none⟩) q2 (.int .i64 xa.s)).setCell (p := ⟨g, B * 4 + 2, none⟩) q2 (.int .i64 xa.e)).setCell (p := ⟨g, B * 4 + 3, none⟩) q2 (.int .i64 xa.o)))
          have O8 := Lib.hid (own_below HPut.out (Below.drew (Below.refl _ _)))
          clear HPut
          go_wp2_with fail
          go_roundw
          case rel => exact ⟨i + 1, R2, by omega, by omega, by go_num, hln, HPm, O8, G8⟩
          case measure => simp [intOf]; omega
        · have hN : ¬ (i : Int) < (Z.length : Int) ∨ ((i : Int) < (Z.length : Int) ∧ ¬ (i : Int) < 60) ∨ ((i : Int) < (Z.length : Int) ∧ (i : Int) < 60 ∧ ¬ (0 : Int) < (M.length : Int)) := by omega
          have HR2 := HR.out
          rw [← hRl] at HR2
          have HR2 := Lib.hid HR2
          have hp := HP.out
          rw [HMe.out] at hp
          have HRb := Lib.hid (rebook_all HOk.out hp)
          have HCw := Lib.hid (H3.out.below HBi.out)
          clear hp HR HP
          rcases hN with n1 | ⟨n1, n2⟩ | ⟨n1, n2, n3⟩
          all_goals
            go_wp2_with fail
            refine (new_is wi).mono ?_; rintro e w11 ⟨D, rfl, h11⟩
            have HD := Lib.hid (show CalIs D ((R.take 0).foldl Kal.book Kal.empty) wi w11 from h11)
            clear h11 n1
            go_wp2_with fail
            clear t1
            go_loopw [13] (fun kv wr => ∃ k : Nat, k ≤ R.length ∧ kv = .int .i64 (k : Int) ∧ Hid (CalIs D ((R.take k).foldl Kal.book Kal.empty) wi wr)) (fun kv _ => R.length - (intOf kv).toNat)
            case atStart => exact ⟨0, by omega, rfl, HD⟩
            case round =>
              obtain ⟨k, hk, rfl, HDk⟩ := hrel
              by_cases hkl : k < R.length
              · obtain ⟨g, off, rfl, hg, hc⟩ := BkA.at (BkOwn.bkaZ (own_below HR2.out HDk.out.bel)) (by omega)
                obtain ⟨x0, x1, x2, x3⟩ := hc k hkl
                have HB := book_is R[k] HDk.out
                rw [if_pos (HRb.out.1 k hkl), ← fold_take R Kal.empty k hkl] at HB
                have HB := Lib.hid HB
                have k0 : (0 : Int) ≤ (k : Int) := by omega
                have k1 : (k : Int) < (M.length : Int) := by omega
                clear hc
                generalize R[k] = x at *
                go_wp2_with fail
                refine HB.out.mono ?_; rintro e w12 ⟨rfl, h12⟩
                have HD2 := Lib.hid h12
                clear h12
                go_wp2_with fail
                go_roundw
                case rel => exact ⟨k + 1, hkl, by go_num, HD2⟩
                case measure => simp [intOf]; omega
              · have k1 : ¬ (k : Int) < (M.length : Int) := by omega
                have HDk' := HDk.out
                rw [List.take_of_length_le (by omega)] at HDk'
                have HQ := Lib.hid (equal_ext (HCw.out.below HDk'.bel) HDk' (fun i hi => (HRb.out.2 i hi).symm))
                have HW := Lib.hid (HCw.out.below HDk'.bel).bel
                clear HDk'
                go_wp2_with fail
                refine HQ.out.mono ?_; rintro e w13 ⟨rfl, g13⟩
                have HF := Lib.hid (below_step HW.out g13)
                clear g13
                go_wp2_with fail
                go_ret
                exact ⟨rfl, HF.out⟩
end Go.Proofs.Ytealfgeeigffbaa
