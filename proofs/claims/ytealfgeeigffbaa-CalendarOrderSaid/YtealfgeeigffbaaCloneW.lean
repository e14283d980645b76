/-
  The walk of CalendarClone.
-/
import Derived.Test.YtealfgeeigffbaaFirstW
namespace Go.Proofs.Ytealfgeeigffbaa
open Go.RowKit Go.Shelf

theorem BkA.take {w : World} {a : Option Addr} {c : Nat} {l : List Kal.Bk} (h : BkA w a c l) (k : Nat) : BkA w a c (l.take k) := by
  refine ⟨by rw [List.length_take]; have := h.1; omega, h.2.1, fun i hi => ?_⟩
  rw [List.length_take] at hi
  obtain ⟨b, off, rfl, h1, h2⟩ := h.2.2 i (by omega)
  exact ⟨b, off, rfl, h1, by rw [List.getElem_take]; exact h2⟩
theorem equal_is {C D : Nat} {K : Kal.Kal} {W W' w : World} (h : CalIs C K W w) (h' : CalIs D K W' w) : Calls Try.prog 31 #[.pointer (some ⟨C, 0, none⟩), .pointer (some ⟨D, 0, none⟩)] w fun e w' => e = .returned (.bool true) ∧ Below w.heap.size w w' := by
  obtain ⟨c, c1, c2, c3⟩ := h
  obtain ⟨d, d1, d2, d3⟩ := h'
  have := equal_any c2 d2
  unfold CalP.ptr at this
  rw [c1, d1, eqK_true.2 (fun _ _ => rfl)] at this
  exact this
theorem clone_is {C : Nat} {K : Kal.Kal} {W w : World} (h : CalIs C K W w) : Calls Try.prog 32 #[.pointer (some ⟨C, 0, none⟩)] w fun e w' => ∃ D, e = .returned (.pointer (some ⟨D, 0, none⟩)) ∧ CalIs D K w w' := by
  obtain ⟨c, c1, c2, c3⟩ := h
  have := Clone_any c2
  unfold CalP.ptr at this
  rw [c1] at this
  exact this.mono fun _ _ ⟨d, h1, h2, h3⟩ => ⟨d.C, h1, d, rfl, h2, h3⟩
/-- A calendar of bookings in memory that is new since the call. -/
theorem booked_new {w : World} (L : List Kal.Bk) (a : Option Addr) (c : Nat) (h : BkA w a c L) : Calls Try.prog 30 #[.slice a L.length c] w fun e w' => ∃ C, e = .returned (.pointer (some ⟨C, 0, none⟩)) ∧ CalIs C (bookAll L) w w' :=
  (booked_any L a c w h).mono fun _ _ ⟨d, h1, h2, h3⟩ => ⟨d.C, h1, d, rfl, h2, h3⟩
theorem CalIs.mono {C : Nat} {K : Kal.Kal} {W W0 w : World} (h : CalIs C K W w) (hb : Below W0.heap.size W0 W) : CalIs C K W0 w := by
  obtain ⟨d, h1, h2, h3⟩ := h
  exact ⟨d, h1, h2.mono hb.size, below_step hb h3⟩
/-- A row of the call's own, new since U, whose cells may be written. -/
def RowAt (U : World) (a : Option Addr) (n : Nat) (w : World) : Prop := 0 < n → ∃ g cs, a = some ⟨g, 0, none⟩ ∧ U.heap.size ≤ g ∧ w.heap[g]? = some (.cells cs 35) ∧ n * 4 ≤ cs.size
theorem BkOwn.rowAt {U w : World} {v : Value} {l : List Kal.Bk} (h : BkOwn w U.heap.size v l) : ∃ a c, v = .slice a l.length c ∧ l.length ≤ c ∧ c ≤ maxLen ∧ RowAt U a l.length w := by
  rcases h.2 with ⟨rfl, h0⟩ | ⟨g, cap, cur, rfl, h2, h3, h4, h5, h6, h7⟩
  · exact ⟨none, 0, by rw [h0], by omega, by decide, fun h => by omega⟩
  · exact ⟨_, cap, rfl, h4, h5, fun _ => ⟨g, cur, rfl, h2, h3, by rw [h6]; omega⟩⟩

set_option maxRecDepth 100000 in
set_option maxHeartbeats 4000000 in
theorem cloneLaw_any (a : Option Addr) (c : Nat) (X : List (List Int)) (fst : Int) (W : World) (h : ArrsA 4 W a c X) (t1 : -9223372036854775808 ≤ fst) (t2 : fst ≤ 9223372036854775807) :
    Calls Try.prog 9 #[.slice a X.length c, .int .i64 fst] W fun e w' => e = .returned (.bool true) ∧ Below W.heap.size W w' := by
  have H := Lib.hid h
  have hLl := someL_len X
  have P1 := Lib.hid (fun w => pick_any fst (((someL X).length : Int) + 1) w ⟨t1, t2⟩ (by omega))
  have b1 := pickZ_bd (c := fst) (n := ((someL X).length : Int) + 1) (by omega)
  obtain ⟨k, hk⟩ : ∃ k : Nat, pickZ fst (((someL X).length : Int) + 1) = (k : Int) := ⟨(pickZ fst (((someL X).length : Int) + 1)).toNat, by omega⟩
  rw [hk] at P1 b1
  have hkl : k ≤ (someL X).length := by omega
  clear h hk t1 t2 b1
  go_enter Try.func9, Try.ntmps9
  go_wp2_with fail
  refine (sane_any W).mono ?_; rintro e w1 ⟨rfl, g1⟩
  have G1 := Lib.hid g1; clear g1
  go_wp2_with fail
  refine (some_is X a c H.out G1.out).mono ?_; rintro e w2 ⟨v, rfl, o2, -, g2⟩
  have O2 := Lib.hid o2; have G2 := Lib.hid g2; clear o2 g2
  generalize someL X = L at *
  obtain ⟨al, cl, rfl, hA⟩ := O2.out.form
  have hcl : L.length ≤ cl ∧ cl ≤ maxLen := ⟨hA.1, hA.2.1⟩
  obtain ⟨hc1, hc2⟩ := hcl
  unfold maxLen at hc2
  have HA := Lib.hid hA; clear hA
  go_wp2_with fail
  refine (P1.out _).mono ?_; rintro e w' ⟨rfl, rfl⟩
  have k0 : (0 : Int) ≤ (k : Int) := by omega
  have k1 : (k : Int) ≤ (L.length : Int) := by omega
  have k2 : (k : Int) ≤ (cl : Int) := by omega
  have HBk := Lib.hid (show ∀ w, BkA w al cl L → Calls Try.prog 30 #[.slice al k cl] w fun e w' => ∃ C, e = .returned (.pointer (some ⟨C, 0, none⟩)) ∧ CalIs C (bookAll (L.take k)) w w' from fun w hw => by
    have := booked_new (L.take k) al cl (hw.take k)
    rw [List.length_take, Nat.min_eq_left hkl] at this
    exact this)
  go_wp2_with fail
  refine (HBk.out _ HA.out).mono ?_; rintro e w3 ⟨C, rfl, h3⟩
  have H3 := Lib.hid h3; clear h3
  go_wp2_with fail
  refine (clone_is H3.out).mono ?_; rintro e w4 ⟨D, rfl, h4⟩
  have H4 := Lib.hid h4; have H34 := Lib.hid (H3.out.below h4.bel); clear h4
  go_wp2_with fail
  refine (equal_is H34.out H4.out).mono ?_; rintro e w5 ⟨rfl, g5⟩
  have H5 := Lib.hid (H4.out.below g5); clear g5
  go_wp2_with fail
  go_loopw [10] (fun iv wr => ∃ j : Nat, j ≤ L.length ∧ k ≤ j ∧ iv = .int .i64 (j : Int) ∧ Hid (CalIs D (bookAll (L.take j)) w3 wr)) (fun iv _ => L.length - (intOf iv).toNat)
  case atStart => exact ⟨k, hkl, Nat.le_refl _, rfl, H5⟩
  case round =>
    obtain ⟨j, hj, hkj, rfl, HD⟩ := hrel
    have HA3 := Lib.hid (HA.out.below (H3.out.bel))
    by_cases hlt : j < L.length
    · obtain ⟨b, off, rfl, hb1, hc⟩ := (HA3.out.below HD.out.bel).at (by omega)
      obtain ⟨x0, x1, x2, x3⟩ := hc j hlt
      have HS := Lib.hid (bookAll_take L j hlt)
      have HBook := Lib.hid (book_is L[j] HD.out)
      have j0 : (0 : Int) ≤ (j : Int) := by omega
      have j1 : (j : Int) < (L.length : Int) := by omega
      clear hc
      generalize L[j] = x at *
      go_wp2_with fail
      refine HBook.out.mono ?_; rintro e w6 ⟨rfl, h6⟩
      rw [← HS.out] at h6
      have H6 := Lib.hid h6; clear h6
      go_wp2_with fail
      go_roundw
      case rel => exact ⟨j + 1, hlt, by omega, by go_num, H6⟩
      case measure => simp [intOf]; omega
    · have j1 : ¬ (j : Int) < (L.length : Int) := by omega
      have HE := Lib.hid (show bookAll (L.take j) = bookAll L by rw [List.take_of_length_le (by omega)])
      rw [HE.out] at HD
      clear hj hkj
      go_wp2_with fail
      go_loopw [11] (fun iv wt => ∃ t : Nat, t ≤ 6 ∧ iv = .int .i64 (t : Int) ∧ Hid (CalIs D (bookAll L) w3 wt)) (fun iv _ => 6 - (intOf iv).toNat)
      case atStart => exact ⟨0, by omega, rfl, HD⟩
      case round =>
        obtain ⟨t, ht, rfl, HT⟩ := hrel
        rename World => wo
        have HCt := Lib.hid (H3.out.below HT.out.bel)
        by_cases hlt : t < 6
        · have htool : Kal.isTool (t : Int) = true := by unfold Kal.isTool; simp; omega
          have HL := list_is (t : Int) HCt.out
          rw [if_pos htool, Int.toNat_natCast] at HL
          have HL := Lib.hid HL
          have hle := (bookAll_ok (L.take k)).len (i := t) (by omega)
          clear htool
          generalize bookAll (L.take k) t = l at *
          go_wp2_with fail
          refine HL.out.mono ?_; rintro e w6 ⟨v6, rfl, o6, g6⟩
          obtain ⟨a6, c6, rfl, q1, q2, hr⟩ := o6.rowAt
          have HR := Lib.hid hr; have G6 := Lib.hid g6
          unfold maxLen at q2
          clear hr g6 o6
          go_wp2_with fail
          go_loopw [13] (fun iv wr => ∃ i : Nat, i ≤ l.length ∧ iv = .int .i64 (i : Int) ∧ Hid (RowAt wo a6 l.length wr) ∧ Hid (Below wo.heap.size wo wr)) (fun iv _ => l.length - (intOf iv).toNat)
          case atStart => exact ⟨0, by omega, rfl, HR, G6⟩
          case round =>
            obtain ⟨i, hi, rfl, HRow, HB⟩ := hrel
            by_cases hil : i < l.length
            · obtain ⟨g, cs, rfl, hg, hgc, hsz⟩ := HRow.out (by omega)
              have i0 : (0 : Int) ≤ (i : Int) := by omega
              have i1 : (i : Int) < (l.length : Int) := by omega
              obtain ⟨y, c0⟩ : ∃ y, wr.cell? ⟨g, i * 4 + 3, none⟩ = some y := ⟨cs[i * 4 + 3]'(by omega), box_cell hgc _ _ (Array.getElem?_eq_getElem (by omega))⟩
              have z0 := box_fz hgc (i * 4 + 3)
              have HRow2 := Lib.hid (show RowAt wo (some ⟨g, 0, none⟩) l.length (wr.setCell ⟨g, i * 4 + 3, none⟩ (.int .i64 99)) from fun _ => ⟨g, _, rfl, hg, block_set hgc _, by simpa using hsz⟩)
              have HB2 := Lib.hid (HB.out.setCell (p := ⟨g, i * 4 + 3, none⟩) hg (.int .i64 99))
              clear hgc hsz hg
              go_wp2_with fail
              go_roundw
              case rel => exact ⟨i + 1, hil, by go_num, HRow2, HB2⟩
              case measure => simp [intOf]; omega
            · have i1 : ¬ (i : Int) < (l.length : Int) := by omega
              have HT2 := Lib.hid (HT.out.below HB.out)
              go_wp2_with fail
              go_roundw
              case rel => exact ⟨t + 1, by omega, by go_num, HT2⟩
              case measure => simp [intOf]; omega
        · obtain rfl : t = 6 := by omega
          have HA6 := Lib.hid (HA3.out.below HT.out.bel)
          go_wp2_with fail
          refine (HBk.out _ HA6.out).mono ?_; rintro e w6 ⟨C2, rfl, h6⟩
          have H6 := Lib.hid h6; have HC6 := Lib.hid (HCt.out.below h6.bel); have HD6 := Lib.hid (HT.out.below h6.bel); have HA7 := Lib.hid (HA6.out.below h6.bel); clear h6
          go_wp2_with fail
          refine (equal_is HC6.out H6.out).mono ?_; rintro e w7 ⟨rfl, g7⟩
          have HD7 := Lib.hid (HD6.out.below g7); have HA8 := Lib.hid (HA7.out.below g7); clear g7
          go_wp2_with fail
          refine (booked_new L al cl HA8.out).mono ?_; rintro e w8 ⟨D2, rfl, h8⟩
          have H8 := Lib.hid h8; have HD8 := Lib.hid (HD7.out.below h8.bel); clear h8
          go_wp2_with fail
          refine (equal_is HD8.out H8.out).mono ?_; rintro e w9 ⟨rfl, g9⟩
          have HD9 := Lib.hid (((HD8.out.below g9).mono H3.out.bel).mono G2.out); clear g9
          go_wp2_with fail
          go_ret
          exact ⟨rfl, HD9.out.bel⟩
end Go.Proofs.Ytealfgeeigffbaa
