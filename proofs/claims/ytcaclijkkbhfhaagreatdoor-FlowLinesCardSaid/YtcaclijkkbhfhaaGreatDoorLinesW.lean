/-
  The walk of FlowLines.
-/
import Derived.Test.YtcaclijkkbhfhaaGreatDoorLEnd
import Derived.Test.YtcaclijkkbhfhaaGreatDoorSane
namespace Go.Proofs.YtcaclijkkbhfhaaGreatDoor
open Go.RowKit Go.Shelf

set_option maxRecDepth 100000 in
set_option maxHeartbeats 8000000 in
theorem lines_any (xa : Option Addr) (xc : Nat) (X : List (List Int)) (ya : Option Addr) (yc : Nat) (Y : List (List Int)) (out : Int) (pa : Option Addr) (pc : Nat) (L : List Int) (w : World) (ht : ∃ a, Tab a w) (hX : ArrsA 6 w xa xc X) (hY : ArrsA 3 w ya yc Y)
    (l0 : -9223372036854775808 ≤ out) (u0 : out ≤ 9223372036854775807) (hL : IntA w pa pc L) (hF : ∀ x ∈ L, Fits x) :
    Calls Tryz.prog 8 #[.slice xa X.length xc, .slice ya Y.length yc, .int .i64 out, .slice pa L.length pc] w fun e w' => e = .returned (.bool true) ∧ Below w.heap.size w w' := by
  obtain ⟨a, ht⟩ := ht
  have HT := Lib.hid ht; have HX := Lib.hid hX; have HY := Lib.hid hY; have HL := Lib.hid hL; have HFi := Lib.hid hF
  have hLm : L.length ≤ maxLen := Nat.le_trans hL.1 hL.2.1
  unfold maxLen at hLm
  clear ht hX hY hL hF
  go_enter Tryz.func8, Tryz.ntmps8
  go_wp2_with fail
  refine (sane_any _ a HT.out).mono ?_; rintro e w2 ⟨rfl, g2⟩
  have G2 := Lib.hid g2; clear g2
  go_wp2_with fail
  refine (Make_any X xa xc Y ya yc w2 (HX.out.below G2.out) (HY.out.below G2.out)).mono ?_
  rintro e w3 ⟨q, rfl, hq, hqv, hP8, hW4, g3⟩
  have G3 := Lib.hid (below_step G2.out g3)
  have QA := Lib.hid hq
  clear g3 hq G2
  go_wp2_with fail
  refine (Print_any q w3 a (HT.out.below G3.out) QA.out).mono ?_
  rintro e w4 ⟨rfl, g4⟩
  have G4 := Lib.hid (below_step G3.out g4)
  clear g4 G3 QA
  have e1 : printS q.f = Fl.text q.f := if_pos hqv
  have e2 : printE q.f = 0 := if_pos hqv
  have hTL := Fl.text_short hqv
  have hLn := Fl.lines_text (Fl.valid_iff.1 hqv)
  have hcat := Fl.text_cat q.f
  have HNo := Lib.hid (Fl.bodies_no (Fl.valid_iff.1 hqv))
  have hDl : (Fl.bodies q.f).length ≤ 13 := by rw [Fl.bodies_length]; simp [FlowP.f]; omega
  have hD1 : 1 ≤ (Fl.bodies q.f).length := by rw [Fl.bodies_length]; omega
  rw [e1, e2]
  clear hqv e1 e2 hP8 hW4
  generalize Fl.text q.f = T at *
  generalize Fl.bodies q.f = D at *
  subst hcat
  go_wp2_with fail
  refine (refLines_any (Fl.cat D) w4 (by omega)).mono ?_
  rintro e w5 ⟨la, lc, rfl, hrow, g5⟩
  have G5 := Lib.hid (below_step G4.out g5)
  rw [hLn] at hrow
  obtain ⟨lb, lo, hla, hlb, hcell⟩ := row_of (strA_own rfl hrow) (by simp)
  subst hla
  have HCD : Hid (∀ i (h : i < D.length), w5.cell? ⟨lb, lo + i, none⟩ = some (.string (bs (D[i]'h)))) := Lib.hid fun i h => hcell i _ (by rw [List.getElem?_append_left h, List.getElem?_eq_getElem h])
  have HCL : Hid (w5.cell? ⟨lb, lo + D.length, none⟩ = some (.string (bs []))) := Lib.hid (hcell _ _ (by rw [List.getElem?_append_right (Nat.le_refl _), Nat.sub_self]; rfl))
  have HDi : Hid (∀ i (h : i < D.length), (D[i]'h).length ≤ 8192) := Lib.hid fun i h => by
    have : (Fl.cat D).length = (Fl.cat (D.take i)).length + (D[i].length + 1 + (Fl.cat (D.drop (i + 1))).length) := by
      conv => lhs; rw [← List.take_append_drop i D, List.drop_eq_getElem_cons h, Fl.cat_append, Fl.cat_cons, List.length_append, List.length_append, List.length_cons]
      omega
    omega
  have HW2 : Hid (IntKind.i64.wrap (D.length : Int) = (D.length : Int) ∧ wrap64 (D.length : Int) = (D.length : Int)) := Lib.hid ⟨IntWalk.i64_in _ (by omega), IntWalk.wrap64_in _ (by omega)⟩
  have hlen : (Fl.lines (Fl.cat D)).length = D.length + 1 := by rw [hLn]; simp
  rw [hlen]
  clear hrow hcell hlen hLn g5 G4
  have PK := Lib.hid (fun w => pick_any out (2 * ((D.length : Int) + 1)) w ⟨l0, u0⟩ (by omega))
  obtain ⟨q0, q1⟩ := pickZ_bd (c := out) (n := 2 * ((D.length : Int) + 1)) (by omega)
  obtain ⟨k, hk⟩ := Int.eq_ofNat_of_zero_le q0
  rw [hk] at PK q1
  clear hk q0
  have d1 : IntKind.i64.wrap (2 * ((D.length : Int) + 1)) = 2 * ((D.length : Int) + 1) := IntWalk.i64_in _ (by omega)
  go_wp2_with fail
  refine (PK.out _).mono ?_; rintro e wd ⟨rfl, rfl⟩
  clear PK d1
  have HLB := Lib.hid (HL.out.below G5.out)
  go_wp2_with fail
  go_loopg [14, 15, 16, 17, 18] (D.length + 1) (fun g s14 s15 s16 s17 s18 wr => ∃ (i : Nat) (pl fu : List UInt8) (pos : List Int) (n : Nat) (v : Value), i ≤ D.length + 1 ∧ g = D.length + 1 - i ∧ s14 = .string (bs pl) ∧ s15 = .string (bs fu) ∧ v = s16 ∧ s17 = .int .i64 (n : Int) ∧ s18 = .int .i64 (i : Int) ∧ Hid (LSt D L k i pl fu pos n) ∧ Hid (IntOwn wr w5.heap.size v pos ∧ Below w5.heap.size w5 wr))
  case atStart => exact ⟨0, [], [], [], 0, _, by omega, by omega, rfl, rfl, rfl, rfl, rfl, Lib.hid (.inl ⟨Nat.zero_le _, rfl, rfl, rfl, rfl⟩), Lib.hid ⟨World.ownsRow_nil _ _ _ _, Below.refl _ _⟩⟩
  case round =>
    obtain ⟨i, pl, fu, pos, n, v, hi, rfl, rfl, rfl, rfl, rfl, rfl, HS, HB⟩ := hrel
    by_cases hlt : i < D.length + 1
    · have HS1 : Hid (LIn D L k i pl fu pos n) := Lib.hid (by
        rcases HS.out with ⟨_, h⟩ | ⟨h, _⟩
        · exact h
        · omega)
      have hlens := it_len D L k i (by omega)
      have htk : (Fl.cat (D.take i)).length ≤ 8192 := by
        have : (Fl.cat D).length = (Fl.cat (D.take i)).length + (Fl.cat (D.drop i)).length := by conv => lhs; rw [← List.take_append_drop i D, Fl.cat_append, List.length_append]
        omega
      rw [← HS1.out.1, ← HS1.out.2.1, ← HS1.out.2.2.2] at hlens
      have hpl : pl.length ≤ 8192 := by omega
      have hfu : fu.length ≤ 10012 := by omega
      have hn : n ≤ 273 := by omega
      clear hlens htk HS
      have hml := fun m => Fl.marksTo_len L (D.length + 1) i m
      have HML := Lib.hid hml
      clear hml
      obtain ⟨w6, hw6⟩ : ∃ x, x = wr := ⟨_, rfl⟩
      subst hw6
      have hdec : decide ((i : Int) < (D.length : Int) + 1) = true := by rw [decide_eq_true_eq]; omega
      go_wp2_with fail
      go_loopg [15, 17, 19] (min L.length 20) (fun g s15 s17 s19 wr => ∃ (m : Nat) (fs : List UInt8) (c : Nat), m ≤ min L.length 20 ∧ g = min L.length 20 - m ∧ s15 = .string (bs fs) ∧ s17 = .int .i64 (c : Int) ∧ s19 = .int .i64 (m : Int) ∧ Hid (fs = fu ++ Fl.cat (Fl.marksTo L (D.length + 1) i m) ∧ c = n + (Fl.marksTo L (D.length + 1) i m).length) ∧ Hid (Below w6.heap.size w6 wr))
      case atStart => exact ⟨0, fu, n, by omega, by omega, rfl, rfl, rfl, Lib.hid ⟨by simp [Fl.marksTo, Fl.cat], by simp [Fl.marksTo]⟩, Lib.hid (Below.refl _ _)⟩
      case round =>
        obtain ⟨m, fs, c, hm, rfl, rfl, rfl, rfl, HM, HI⟩ := hrel
        have hmm := HML.out m
        have hmM : m ≤ 20 := by omega
        have hfs : fs.length ≤ 10152 := by have := congrArg List.length HM.out.1; rw [List.length_append] at this; omega
        have hc : c ≤ 293 := by have := HM.out.2; omega
        clear hmm
        by_cases hlm : m < L.length
        · by_cases hl20 : m < 20
          · obtain ⟨b, off, hpa, hbl, hce⟩ := ((HLB.out.below HB.out.2).below HI.out).2.2 m hlm
            have hx := HFi.out L[m] (List.getElem_mem hlm)
            have PKm := Lib.hid (fun w => pick_any L[m] ((D.length : Int) + 1) w hx (by omega))
            have HY := Lib.hid (Fl.marksTo_yes (N := D.length + 1) (i := i) hlm)
            have HN := Lib.hid (Fl.marksTo_no (N := D.length + 1) (i := i) hlm)
            have e9 : IntKind.i64.wrap ((m : Int) + 1) = (m : Int) + 1 := IntWalk.i64_in _ (by omega)
            subst hpa
            by_cases hp : pickZ L[m] ((D.length : Int) + 1) = (i : Int)
            · have heq : (pickZ L[m] ((D.length : Int) + 1) == (i : Int)) = true := by rw [beq_iff_eq]; exact hp
              have HY2 := Lib.hid (HY.out (by simpa using hp))
              clear hp HN HY
              have hN0 : ¬ ((D.length : Int) + 1 = 0) := by omega
              have PK3 := Lib.hid (fun w => pick_any (L[m].tdiv ((D.length : Int) + 1)) 3 w (fits_tdiv hx (by omega)) (by omega))
              have g10 : IntKind.i64.wrap (L[m].tdiv ((D.length : Int) + 1)) = L[m].tdiv ((D.length : Int) + 1) := wrap_fits (fits_tdiv hx (by omega))
              obtain ⟨p0, p1⟩ := pickZ_bd (c := L[m].tdiv ((D.length : Int) + 1)) (n := 3) (by omega)
              rw [show ((D.length + 1 : Nat) : Int) = (D.length : Int) + 1 by omega] at HY2
              generalize pickZ (L[m].tdiv ((D.length : Int) + 1)) 3 = cz at *
              obtain ⟨j, hj, hj3, hcell⟩ := mark_cell wr cz p0 p1
              have hmk := (Fl.markOf_ok cz).2.2
              have a1 := add_bs fs (Fl.markOf cz ++ [10]) (by simp; omega)
              have HY3 := Lib.hid (show Fl.cat (Fl.marksTo L (D.length + 1) i (m + 1)) = Fl.cat (Fl.marksTo L (D.length + 1) i m) ++ (Fl.markOf cz ++ [10]) by rw [HY2.out, Fl.cat_append]; simp [Fl.cat])
              rw [hj] at PK3 p0 p1
              generalize Fl.markOf cz ++ [10] = mk at *
              have HFS := Lib.hid (show fs ++ mk = fu ++ Fl.cat (Fl.marksTo L (D.length + 1) i (m + 1)) by rw [HY3.out, HM.out.1, List.append_assoc])
              have HCC := Lib.hid (show c + 1 = n + (Fl.marksTo L (D.length + 1) i (m + 1)).length by rw [HY2.out, HM.out.2]; simp; omega)
              clear hj p0 p1 HY2 HY3 hmk
              generalize fs ++ mk = fs2 at *
              have hce2 := cell_below (below_new wr (.cells #[.string ⟨#[10]⟩, .string ⟨#[35, 32, 115, 116, 101, 112, 10]⟩, .string ⟨#[35, 10]⟩] 9)) hce
              have HI2 := Lib.hid (below_step HI.out (below_new wr (.cells #[.string ⟨#[10]⟩, .string ⟨#[35, 32, 115, 116, 101, 112, 10]⟩, .string ⟨#[35, 10]⟩] 9)))
              have e8 : IntKind.i64.wrap ((c : Int) + 1) = (c : Int) + 1 := IntWalk.i64_in _ (by omega)
              go_wp2_with fail
              refine (PKm.out _).mono ?_; rintro e wd ⟨rfl, rfl⟩
              go_wp2_with fail
              refine (PK3.out _).mono ?_; rintro e wd ⟨rfl, rfl⟩
              go_wp2_with fail
              go_roundg (min L.length 20 - (m + 1))
              case rel => exact ⟨m + 1, fs2, c + 1, by omega, rfl, rfl, by go_num, by go_num, Lib.hid ⟨HFS.out, HCC.out⟩, HI2⟩
              case measure => omega
            · have heq : (pickZ L[m] ((D.length : Int) + 1) == (i : Int)) = false := by rw [beq_eq_false_iff_ne]; exact hp
              have HN2 := Lib.hid (HN.out (by simpa using hp))
              go_wp2_with fail
              refine (PKm.out _).mono ?_; rintro e wd ⟨rfl, rfl⟩
              clear hp
              go_wp2_with fail
              go_roundg (min L.length 20 - (m + 1))
              case rel => exact ⟨m + 1, fs, c, by omega, rfl, rfl, rfl, by go_num, Lib.hid (by rw [HN2.out]; exact HM.out), HI⟩
              case measure => omega
          · have hmE : m = min L.length 20 := by omega
            have HM2 : Hid (fs = fu ++ Fl.cat (mk D L i) ∧ c = n + (mk D L i).length) := Lib.hid (by have h := HM.out; rw [hmE] at h; exact h)
            clear hmE HM
            have HB2 : Hid (IntOwn wr w5.heap.size v pos ∧ Below w5.heap.size w5 wr) := Lib.hid ⟨HB.out.1.below HI.out, below_step HB.out.2 HI.out⟩
            have e7 : IntKind.i64.wrap ((i : Int) + 1) = (i : Int) + 1 := IntWalk.i64_in _ (by omega)
            by_cases hik : i = k
            · have hik' : ((i : Int) == (k : Int)) = true := by rw [beq_iff_eq]; omega
              have HN := Lib.hid (HS1.out.skip (by omega) hik)
              rw [← HM2.out.1, ← HM2.out.2] at HN
              clear hik
              go_wp2_with fail
              go_roundg (D.length + 1 - (i + 1))
              case rel => exact ⟨i + 1, pl, fs, pos, c, v, by omega, rfl, rfl, rfl, rfl, rfl, by go_num, HN, HB2⟩
              case measure => omega
            · have hik' : ((i : Int) == (k : Int)) = false := by rw [beq_eq_false_iff_ne]; omega
              have hpos : pos.length ≤ i := by
                have h := congrArg List.length HS1.out.2.2.1
                rw [List.length_map, Fl.placesOf_length] at h
                rw [h]
                refine Nat.le_trans (List.length_filterMap_le _ _) ?_
                simp [Fl.itemsTo]; omega
              have e8 : IntKind.i64.wrap ((c : Int) + 1) = (c : Int) + 1 := IntWalk.i64_in _ (by omega)
              have HWA := Lib.hid (below_new wr (.cells #[.int .i64 ((c : Int) + 1)] 3))
              have HO : Hid (World.ownsRow (wr.alloc (.cells #[.int .i64 ((c : Int) + 1)] 3)) w5.heap.size 3 1 v pos.length (intV pos)) := Lib.hid (HB2.out.1.below HWA.out)
              have HNW : Hid (∀ j u, [Value.int .i64 ((c : Int) + 1)][j]? = some u → (wr.alloc (.cells #[.int .i64 ((c : Int) + 1)] 3)).cell? ((⟨wr.heap.size, 0, none⟩ : Addr).add j) = some u) := Lib.hid (World.news_of_block (cs := #[.int .i64 ((c : Int) + 1)]) (t := 3) (fr := (0, 0)) (heap_alloc_new wr _))
              have HG : Hid (∀ w10, (wr.alloc (.cells #[.int .i64 ((c : Int) + 1)] 3)).grownBy w10 v.ownBlock → Below w5.heap.size w5 w10) := Lib.hid fun w10 hg => (HB2.out.2.trans (HWA.out.mono HB2.out.2.size)).grown hg (Nat.le_trans HB2.out.2.size HWA.out.size) (fun k hk => (HO.out.lt k hk).1)
              obtain ⟨i0, hi0, hz0, hz1, hz2⟩ := info_parts info_int
              have hbz := HB2.out.2.size
              go_upto_region 23 with (at_builtin; refine wpList_append_lies _ rfl _ _ _ rfl w5.heap.size 3 i0 _ 1 8 Tryz.underlying50 hi0 hz0 hz1 hz2 rfl (by decide) v pos.length (intV pos) rfl HO.out ⟨wr.heap.size, 0, none⟩ 1 1 [.int .i64 ((c : Int) + 1)] rfl rfl HNW.out (by simp [Value.oneCell']) (by decide) ?c1 ?c2 ?c3 (wr.heap.size + 1) (by simp) ?_)
              case c1 => unfold maxLen; omega
              case c2 => omega
              case c3 => first | omega | (simp; omega)
              intro g' cap w10 hown hgrow hat hl2
              have HB3 : Hid (IntOwn w10 w5.heap.size (.slice (some ⟨g', 0, none⟩) (pos.length + 1) cap) (pos ++ [(c : Int) + 1]) ∧ Below w5.heap.size w5 w10) := Lib.hid ⟨by
                unfold IntOwn
                rw [show intV (pos ++ [(c : Int) + 1]) = intV pos ++ [.int .i64 ((c : Int) + 1)] by simp [intV], show (pos ++ [(c : Int) + 1]).length = pos.length + 1 by simp]
                exact hown, HG.out w10 hgrow⟩
              clear hown hgrow hat hl2 hi0 hz0 hz1 hz2 HG HNW HO HWA
              by_cases hil : i < D.length
              · have hil' : (i : Int) < (D.length : Int) := by omega
                have cl := cell_below HB3.out.2 (HCD.out i hil)
                have hDi : (D[i]'hil).length ≤ 8192 := HDi.out i hil
                have HN := Lib.hid (HS1.out.line hil hik)
                rw [← HM2.out.1, ← HM2.out.2] at HN
                generalize D[i] = ln at *
                have a1 := add_bs pl ln (by omega)
                have a2 := add_bs fs ln (by omega)
                have a3 := add_bs (pl ++ ln) [10] (by simp; omega)
                have a4 := add_bs (fs ++ ln) [10] (by simp; omega)
                generalize pl ++ ln = pl1 at *
                generalize fs ++ ln = fs1 at *
                generalize pl1 ++ [10] = pl2 at *
                generalize fs1 ++ [10] = fs2 at *
                clear hik
                have d2 := HW2.out.1
                go_wp2_with fail
                clear d2
                go_roundg (D.length + 1 - (i + 1))
                case rel => exact ⟨i + 1, pl2, fs2, pos ++ [(c : Int) + 1], c + 1, _, by omega, rfl, rfl, rfl, rfl, by go_num, by go_num, HN, HB3⟩
                case measure => omega
              · have hil' : ¬ (i : Int) < (D.length : Int) := by omega
                have hiD : i = D.length := by omega
                have cl := cell_below HB3.out.2 HCL.out
                rw [← hiD] at cl
                have HN := Lib.hid (HS1.out.last hiD hik)
                rw [← HM2.out.1, ← HM2.out.2] at HN
                have a1 := add_bs pl [] (by simp; omega)
                have a2 := add_bs fs [] (by simp; omega)
                rw [List.append_nil] at a1 a2
                clear hik hiD
                have d2 := HW2.out.1
                go_wp2_with fail
                clear d2
                go_roundg (D.length + 1 - (i + 1))
                case rel => exact ⟨i + 1, pl, fs, pos ++ [(c : Int) + 1], c + 1, _, by omega, rfl, rfl, rfl, rfl, by go_num, by go_num, HN, HB3⟩
                case measure => omega
        · have hmE : m = min L.length 20 := by omega
          have HM2 : Hid (fs = fu ++ Fl.cat (mk D L i) ∧ c = n + (mk D L i).length) := Lib.hid (by have h := HM.out; rw [hmE] at h; exact h)
          clear hmE HM
          have HB2 : Hid (IntOwn wr w5.heap.size v pos ∧ Below w5.heap.size w5 wr) := Lib.hid ⟨HB.out.1.below HI.out, below_step HB.out.2 HI.out⟩
          have e7 : IntKind.i64.wrap ((i : Int) + 1) = (i : Int) + 1 := IntWalk.i64_in _ (by omega)
          by_cases hik : i = k
          · have hik' : ((i : Int) == (k : Int)) = true := by rw [beq_iff_eq]; omega
            have HN := Lib.hid (HS1.out.skip (by omega) hik)
            rw [← HM2.out.1, ← HM2.out.2] at HN
            clear hik
            go_wp2_with fail
            go_roundg (D.length + 1 - (i + 1))
            case rel => exact ⟨i + 1, pl, fs, pos, c, v, by omega, rfl, rfl, rfl, rfl, rfl, by go_num, HN, HB2⟩
            case measure => omega
          · have hik' : ((i : Int) == (k : Int)) = false := by rw [beq_eq_false_iff_ne]; omega
            have hpos : pos.length ≤ i := by
              have h := congrArg List.length HS1.out.2.2.1
              rw [List.length_map, Fl.placesOf_length] at h
              rw [h]
              refine Nat.le_trans (List.length_filterMap_le _ _) ?_
              simp [Fl.itemsTo]; omega
            have e8 : IntKind.i64.wrap ((c : Int) + 1) = (c : Int) + 1 := IntWalk.i64_in _ (by omega)
            have HWA := Lib.hid (below_new wr (.cells #[.int .i64 ((c : Int) + 1)] 3))
            have HO : Hid (World.ownsRow (wr.alloc (.cells #[.int .i64 ((c : Int) + 1)] 3)) w5.heap.size 3 1 v pos.length (intV pos)) := Lib.hid (HB2.out.1.below HWA.out)
            have HNW : Hid (∀ j u, [Value.int .i64 ((c : Int) + 1)][j]? = some u → (wr.alloc (.cells #[.int .i64 ((c : Int) + 1)] 3)).cell? ((⟨wr.heap.size, 0, none⟩ : Addr).add j) = some u) := Lib.hid (World.news_of_block (cs := #[.int .i64 ((c : Int) + 1)]) (t := 3) (fr := (0, 0)) (heap_alloc_new wr _))
            have HG : Hid (∀ w10, (wr.alloc (.cells #[.int .i64 ((c : Int) + 1)] 3)).grownBy w10 v.ownBlock → Below w5.heap.size w5 w10) := Lib.hid fun w10 hg => (HB2.out.2.trans (HWA.out.mono HB2.out.2.size)).grown hg (Nat.le_trans HB2.out.2.size HWA.out.size) (fun k hk => (HO.out.lt k hk).1)
            obtain ⟨i0, hi0, hz0, hz1, hz2⟩ := info_parts info_int
            have hbz := HB2.out.2.size
            go_upto_region 23 with (at_builtin; refine wpList_append_lies _ rfl _ _ _ rfl w5.heap.size 3 i0 _ 1 8 Tryz.underlying50 hi0 hz0 hz1 hz2 rfl (by decide) v pos.length (intV pos) rfl HO.out ⟨wr.heap.size, 0, none⟩ 1 1 [.int .i64 ((c : Int) + 1)] rfl rfl HNW.out (by simp [Value.oneCell']) (by decide) ?c1 ?c2 ?c3 (wr.heap.size + 1) (by simp) ?_)
            case c1 => unfold maxLen; omega
            case c2 => omega
            case c3 => first | omega | (simp; omega)
            intro g' cap w10 hown hgrow hat hl2
            have HB3 : Hid (IntOwn w10 w5.heap.size (.slice (some ⟨g', 0, none⟩) (pos.length + 1) cap) (pos ++ [(c : Int) + 1]) ∧ Below w5.heap.size w5 w10) := Lib.hid ⟨by
              unfold IntOwn
              rw [show intV (pos ++ [(c : Int) + 1]) = intV pos ++ [.int .i64 ((c : Int) + 1)] by simp [intV], show (pos ++ [(c : Int) + 1]).length = pos.length + 1 by simp]
              exact hown, HG.out w10 hgrow⟩
            clear hown hgrow hat hl2 hi0 hz0 hz1 hz2 HG HNW HO HWA
            by_cases hil : i < D.length
            · have hil' : (i : Int) < (D.length : Int) := by omega
              have cl := cell_below HB3.out.2 (HCD.out i hil)
              have hDi : (D[i]'hil).length ≤ 8192 := HDi.out i hil
              have HN := Lib.hid (HS1.out.line hil hik)
              rw [← HM2.out.1, ← HM2.out.2] at HN
              generalize D[i] = ln at *
              have a1 := add_bs pl ln (by omega)
              have a2 := add_bs fs ln (by omega)
              have a3 := add_bs (pl ++ ln) [10] (by simp; omega)
              have a4 := add_bs (fs ++ ln) [10] (by simp; omega)
              generalize pl ++ ln = pl1 at *
              generalize fs ++ ln = fs1 at *
              generalize pl1 ++ [10] = pl2 at *
              generalize fs1 ++ [10] = fs2 at *
              clear hik
              have d2 := HW2.out.1
              go_wp2_with fail
              clear d2
              go_roundg (D.length + 1 - (i + 1))
              case rel => exact ⟨i + 1, pl2, fs2, pos ++ [(c : Int) + 1], c + 1, _, by omega, rfl, rfl, rfl, rfl, by go_num, by go_num, HN, HB3⟩
              case measure => omega
            · have hil' : ¬ (i : Int) < (D.length : Int) := by omega
              have hiD : i = D.length := by omega
              have cl := cell_below HB3.out.2 HCL.out
              rw [← hiD] at cl
              have HN := Lib.hid (HS1.out.last hiD hik)
              rw [← HM2.out.1, ← HM2.out.2] at HN
              have a1 := add_bs pl [] (by simp; omega)
              have a2 := add_bs fs [] (by simp; omega)
              rw [List.append_nil] at a1 a2
              clear hik hiD
              have d2 := HW2.out.1
              go_wp2_with fail
              clear d2
              go_roundg (D.length + 1 - (i + 1))
              case rel => exact ⟨i + 1, pl, fs, pos ++ [(c : Int) + 1], c + 1, _, by omega, rfl, rfl, rfl, rfl, by go_num, by go_num, HN, HB3⟩
              case measure => omega
    · have hfin := HS.out.fin hlt HNo.out
      obtain ⟨hF, hpl, hfu, hps⟩ := hfin
      have hpl2 : pl.length ≤ 900000 := by omega
      have hfu2 : fu.length ≤ 900000 := by omega
      have GR := Lib.hid (below_step G5.out HB.out.2)
      have HTR := Lib.hid (HT.out.below GR.out)
      obtain ⟨pa, pc, rfl, hpA, -⟩ := HB.out.1.arg
      have HPA := Lib.hid hpA
      clear hpA HS HB hpl hfu
      have Q0 : ∀ w, q0.ok w := fun w => ⟨StepsA.nil _, WinsA.nil _⟩
      have SM : Hid (∀ w', Calls Tryz.prog 19 #[.agg #[.int .i64 0, .int .i64 0, .slice none 0 0, .slice none 0 0], .agg #[.int .i64 0, .int .i64 0, .slice none 0 0, .slice none 0 0]] w' fun e w'' => e = .returned (.bool true) ∧ Below w'.heap.size w' w'') := Lib.hid fun w' => (Same_any q0 q0 w' (Q0 w') (Q0 w')).mono fun _ _ ⟨h1, h2⟩ => ⟨by rw [h1, decide_eq_true rfl], h2⟩
      clear Q0
      rcases hF with ⟨f, h1, h2⟩ | ⟨j, e, hj, h1, hje, h2, hjl⟩ | ⟨h1, h2, h3⟩
      · have P1 := Lib.hid h1; have P2 := Lib.hid h2
        clear h1 h2 SM
        go_wp2_with fail
        refine (parse_ok P1.out wr a HTR.out hpl2).mono ?_; rintro e w6 ⟨q1, rfl, hf1, hq1, g6⟩
        have G6 := Lib.hid (below_step g6 (below_new w6 (flowBox q1)))
        have B6 := Lib.hid (FlowBox.new w6 q1)
        have Q1 := Lib.hid (hq1.below (below_new w6 (flowBox q1))); have F1 := Lib.hid hf1
        clear hq1 g6 hf1
        go_upto_region 29 with (fail)
        generalize w6.alloc (.cells #[.int .i64 q1.least, .int .i64 q1.most, .slice q1.sa q1.P.length q1.sc, .slice q1.wa q1.W.length q1.wc] 25) = u6 at *
        go_wp2_with fail
        refine (parse_ok P2.out u6 a (HTR.out.below G6.out) hfu2).mono ?_; rintro e w7 ⟨q2, rfl, hf2, hq2, g7⟩
        have G7 := Lib.hid (below_step (below_step G6.out g7) (below_new w7 (flowBox q2)))
        have B7 := Lib.hid (FlowBox.new w7 q2)
        have B67 := Lib.hid (B6.out.below (below_step g7 (below_new w7 (flowBox q2))))
        have Q2 := Lib.hid (hq2.below (below_new w7 (flowBox q2))); have F2 := Lib.hid (hf2.trans F1.out.symm)
        have Q12 := Lib.hid (Q1.out.below (below_step g7 (below_new w7 (flowBox q2))))
        clear hq2 g7 hf2
        go_upto_region 30 with (fail)
        generalize w7.alloc (.cells #[.int .i64 q2.least, .int .i64 q2.most, .slice q2.sa q2.P.length q2.sc, .slice q2.wa q2.W.length q2.wc] 25) = u7 at *
        obtain ⟨-, x0, x1, x2, x3⟩ := B67.out
        obtain ⟨-, y0, y1, y2, y3⟩ := B7.out
        go_wp2_with fail
        refine (Same_any q1 q2 u7 Q12.out Q2.out).mono ?_; rintro e w8 ⟨rfl, g8⟩
        have G8 := Lib.hid (below_step G7.out g8)
        rw [decide_eq_true F2.out.symm]
        clear g8 x0 x1 x2 x3 y0 y1 y2 y3
        go_wp2_with fail
        go_ret
        exact ⟨rfl, below_step GR.out G8.out⟩
      · have P1 := Lib.hid h1; have P2 := Lib.hid h2
        clear h1 h2
        go_wp2_with fail
        refine (parse_err P1.out wr a HTR.out hpl2).mono ?_; rintro e1 w6 ⟨rfl, g6⟩
        have G6 := Lib.hid (below_step g6 (below_new w6 (flowBox q0)))
        have B6 := Lib.hid (FlowBox.new w6 q0)
        clear g6
        go_upto_region 29 with (fail)
        generalize w6.alloc (.cells #[.int .i64 0, .int .i64 0, .slice none 0 0, .slice none 0 0] 25) = u6 at *
        go_wp2_with fail
        refine (parse_err P2.out u6 a (HTR.out.below G6.out) hfu2).mono ?_; rintro e2 w7 ⟨rfl, g7⟩
        have G7 := Lib.hid (below_step (below_step G6.out g7) (below_new w7 (flowBox q0)))
        have B7 := Lib.hid (FlowBox.new w7 q0)
        have B67 := Lib.hid (B6.out.below (below_step g7 (below_new w7 (flowBox q0))))
        clear g7
        go_upto_region 30 with (fail)
        generalize w7.alloc (.cells #[.int .i64 0, .int .i64 0, .slice none 0 0, .slice none 0 0] 25) = u7 at *
        obtain ⟨-, x0, x1, x2, x3⟩ := B67.out
        obtain ⟨-, y0, y1, y2, y3⟩ := B7.out
        go_wp2_with fail
        refine (SM.out u7).mono ?_; rintro e3 w8 ⟨rfl, g8⟩
        have G8 := Lib.hid (below_step G7.out g8)
        clear g8 x0 x1 x2 x3 y0 y1 y2 y3
        go_wp2_with fail
        refine (refLines_any pl w8 hpl2).mono ?_; rintro e4 w9 ⟨ra, rc, rfl, -, g9⟩
        have G9 := Lib.hid (below_step G8.out g9)
        clear g9
        have hx : IntKind.i64.wrap ((j : Int) + 1 - 1) = (j : Int) := by rw [IntWalk.i64_in _ (by omega)]; omega
        have hge : decide ((j : Int) + 1 < 1) = false := decide_eq_false (by omega)
        have hle : (j : Int) + 1 ≤ ((Fl.lines pl).length : Int) := by omega
        have hjp : (j : Int) < (pos.length : Int) := by omega
        obtain ⟨pb, po, rfl, hpb, hpc⟩ := (HPA.out.below G9.out).at (by omega)
        have cl := hpc j hj
        rw [hje] at cl
        clear hpc
        go_wp2_with fail
        go_ret
        exact ⟨rfl, below_step GR.out G9.out⟩
      · have P1 := Lib.hid h1; have P2 := Lib.hid h3
        clear h1 h3
        go_wp2_with fail
        refine (parse_err P1.out wr a HTR.out hpl2).mono ?_; rintro e1 w6 ⟨rfl, g6⟩
        have G6 := Lib.hid (below_step g6 (below_new w6 (flowBox q0)))
        have B6 := Lib.hid (FlowBox.new w6 q0)
        clear g6
        go_upto_region 29 with (fail)
        generalize w6.alloc (.cells #[.int .i64 0, .int .i64 0, .slice none 0 0, .slice none 0 0] 25) = u6 at *
        go_wp2_with fail
        refine (parse_err P2.out u6 a (HTR.out.below G6.out) hfu2).mono ?_; rintro e2 w7 ⟨rfl, g7⟩
        have G7 := Lib.hid (below_step (below_step G6.out g7) (below_new w7 (flowBox q0)))
        have B7 := Lib.hid (FlowBox.new w7 q0)
        have B67 := Lib.hid (B6.out.below (below_step g7 (below_new w7 (flowBox q0))))
        clear g7
        go_upto_region 30 with (fail)
        generalize w7.alloc (.cells #[.int .i64 0, .int .i64 0, .slice none 0 0, .slice none 0 0] 25) = u7 at *
        obtain ⟨-, x0, x1, x2, x3⟩ := B67.out
        obtain ⟨-, y0, y1, y2, y3⟩ := B7.out
        go_wp2_with fail
        refine (SM.out u7).mono ?_; rintro e3 w8 ⟨rfl, g8⟩
        have G8 := Lib.hid (below_step G7.out g8)
        clear g8 x0 x1 x2 x3 y0 y1 y2 y3
        go_wp2_with fail
        refine (refLines_any pl w8 hpl2).mono ?_; rintro e4 w9 ⟨ra, rc, rfl, -, g9⟩
        have G9 := Lib.hid (below_step G8.out g9)
        clear g9
        go_wp2_with fail
        refine (refLines_any fu w9 hfu2).mono ?_; rintro e5 w10 ⟨sa, sc, rfl, -, g10⟩
        have G10 := Lib.hid (below_step G9.out g10)
        clear g10
        go_wp2_with fail
        go_ret
        exact ⟨rfl, below_step GR.out G10.out⟩
end Go.Proofs.YtcaclijkkbhfhaaGreatDoor
