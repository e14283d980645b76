/-
  The walk of FlowFirstError.
-/
import Derived.Test.YtblnfcffalaeaaaGreatDoorMake
import Derived.Test.YtblnfcffalaeaaaGreatDoorRefL
import Derived.Test.YtblnfcffalaeaaaGreatDoorFlG
import Derived.Test.YtblnfcffalaeaaaGreatDoorFlH
import Derived.Deep.LoopGhost
import Derived.Deep.DeepCutAuto
namespace Go.Proofs.YtblnfcffalaeaaaGreatDoor
open Go.RowKit Go.Shelf

theorem cat_take_succ (L : List (List UInt8)) (k : Nat) (h : k < L.length) : Fl.cat (L.take (k + 1)) = Fl.cat (L.take k) ++ L[k] ++ [10] := by
  rw [List.take_succ_eq_append_getElem h, Fl.cat_append]; simp [Fl.cat]
theorem cat_take_len (L : List (List UInt8)) (k : Nat) : (Fl.cat (L.take k)).length ≤ (Fl.cat L).length := by
  conv => rhs; rw [← List.take_append_drop k L, Fl.cat_append, List.length_append]
  omega
theorem cat_at_len {L : List (List UInt8)} {k : Nat} (h : k < L.length) : (Fl.cat (L.take k)).length + L[k].length + 1 ≤ (Fl.cat L).length := by
  have := cat_take_len L (k + 1)
  rw [cat_take_succ L k h] at this
  simp at this; omega
theorem bodies_len2 {f : Fl.Flow} (hv : Fl.valid f = true) : 2 ≤ (Fl.bodies f).length := by
  have h := (Fl.valid_iff.1 hv).pos
  unfold Fl.bodies
  obtain ⟨lo, hi, steps, wins⟩ := f
  cases steps with
  | nil => cases h
  | cons s l => simp [Fl.stepBodies]
theorem cat_len (L : List (List UInt8)) : L.length ≤ (Fl.cat L).length := by
  induction L with
  | nil => simp
  | cons l L ih => rw [Fl.cat_cons]; simp; omega
theorem bad_cell (w : World) (m : Nat) (hm : m < 14) : (w.alloc (.cells #[.string ⟨#[115, 116, 101, 112]⟩, .string ⟨#[119, 105, 110, 100, 111, 119, 32, 51, 32, 51, 32, 53]⟩, .string ⟨#[109, 111, 118, 101, 32, 51, 46, 46, 50]⟩, .string ⟨#[115, 116, 101, 112, 32, 57, 57, 32, 114, 101, 99, 105, 112, 101, 32, 49, 32, 116, 111, 111, 108, 115, 32, 49, 32, 116, 105, 109, 101, 32, 49, 46, 46, 49, 32, 110, 101, 120, 116, 32, 45]⟩, .string ⟨#[120]⟩, .string ⟨#[32]⟩, .string ⟨#[119, 105, 110, 100, 111, 119, 32, 48, 32, 49, 32, 54, 48, 32]⟩, .string ⟨#[115, 116, 101, 112, 32, 48, 32, 114, 101, 99, 105, 112, 101, 32, 48, 32, 116, 111, 111, 108, 115, 32, 49, 32, 116, 105, 109, 101, 32, 49, 46, 46, 49, 32, 110, 101, 120, 116, 32, 45]⟩, .string ⟨#[115, 116, 101, 112, 32, 48, 32, 114, 101, 99, 105, 112, 101, 32, 49, 32, 116, 111, 111, 108, 115, 32, 50, 44, 49, 32, 116, 105, 109, 101, 32, 49, 46, 46, 49, 32, 110, 101, 120, 116, 32, 45]⟩, .string ⟨#[115, 116, 101, 112, 32, 48, 32, 114, 101, 99, 105, 112, 101, 32, 49, 32, 116, 111, 111, 108, 115, 32, 49, 32, 116, 105, 109, 101, 32, 48, 46, 46, 49, 32, 110, 101, 120, 116, 32, 45]⟩, .string ⟨#[115, 116, 101, 112, 32, 48, 32, 114, 101, 99, 105, 112, 101, 32, 49, 32, 116, 111, 111, 108, 115, 32, 49, 32, 116, 105, 109, 101, 32, 49, 46, 46, 49, 32, 110, 101, 120, 116, 32, 48, 49]⟩, .string ⟨#[115, 116, 101, 112, 32, 48, 32, 114, 101, 99, 105, 112, 101, 32, 49, 32, 116, 111, 111, 108, 115, 32, 49, 32, 116, 105, 109, 101, 32, 49, 46, 46, 49, 32, 110, 101, 120, 116, 32, 45, 32, 98, 97, 99, 107, 32, 48]⟩, .string ⟨#[115, 116, 101, 112, 32, 48, 32, 114, 101, 99, 105, 112, 101, 32, 49, 32, 116, 111, 111, 108, 115, 32, 49, 32, 116, 105, 109, 101, 32, 49, 46, 46, 49, 32, 110, 101, 120, 116, 32, 45, 32, 98, 97, 99, 107, 32, 48, 32, 108, 105, 109, 105, 116, 32, 48]⟩, .string ⟨#[109, 111, 118, 101, 32, 49, 46, 46, 50, 32]⟩] 9)).cell? ⟨w.heap.size, m, none⟩ = some (.string (bs (Fl.bads[m]'hm))) := by
  refine block_cell (heap_alloc_new w _) m _ ?_
  rcases (by omega : m = 0 ∨ m = 1 ∨ m = 2 ∨ m = 3 ∨ m = 4 ∨ m = 5 ∨ m = 6 ∨ m = 7 ∨ m = 8 ∨ m = 9 ∨ m = 10 ∨ m = 11 ∨ m = 12 ∨ m = 13) with rfl | rfl | rfl | rfl | rfl | rfl | rfl | rfl | rfl | rfl | rfl | rfl | rfl | rfl <;> rfl

theorem row_cells {w : World} {la : Option Addr} {lc : Nat} {D : List (List UInt8)} {x : List UInt8} (h : StrA w la lc ((D ++ [x]).map bs)) :
    ∃ b off, la = some ⟨b, off, none⟩ ∧ b < w.heap.size ∧ ∀ i (h : i < D.length), w.cell? ⟨b, off + i, none⟩ = some (.string (bs D[i])) := by
  obtain ⟨b, off, e, hb, _⟩ := h.2.2 0 (by simp)
  refine ⟨b, off, e, hb, fun i hi => ?_⟩
  obtain ⟨b', off', e', _, hc⟩ := h.2.2 i (by simp; omega)
  rw [e] at e'; injection e' with e'; injection e' with e1 e2; subst e1; subst e2
  rw [hc, List.getElem_map, List.getElem_append_left hi]

set_option maxRecDepth 100000 in
set_option maxHeartbeats 4000000 in
theorem first_any (xa : Option Addr) (xc : Nat) (X : List (List Int)) (ya : Option Addr) (yc : Nat) (Y : List (List Int)) (at0 wh : Int) (s : ByteArray) (w : World) (ht : ∃ a, Tab a w) (hX : ArrsA 6 w xa xc X) (hY : ArrsA 3 w ya yc Y)
    (l0 : -9223372036854775808 ≤ at0) (u0 : at0 ≤ 9223372036854775807) (l1 : -9223372036854775808 ≤ wh) (u1 : wh ≤ 9223372036854775807) (hs : s.size ≤ maxLen) :
    Calls Tryz.prog 9 #[.slice xa X.length xc, .slice ya Y.length yc, .int .i64 at0, .int .i64 wh, .string s] w fun e w' => e = .returned (.bool true) ∧ Below w.heap.size w w' := by
  obtain ⟨a, ht⟩ := ht
  obtain ⟨more, rfl⟩ : ∃ m, s = bs m := ⟨s.data.toList, by apply ByteArray.ext; simp⟩
  have HT := Lib.hid ht; have HX := Lib.hid hX; have HY := Lib.hid hY
  clear ht hX hY
  go_enter Tryz.func9, Tryz.ntmps9
  go_wp2_with fail
  refine (sane_any _ a HT.out).mono ?_; rintro e w2 ⟨rfl, g2⟩
  have G2 := Lib.hid g2; clear g2
  go_wp2_with fail
  refine (Make_any X xa xc Y ya yc w2 (HX.out.below G2.out) (HY.out.below G2.out)).mono ?_
  rintro e w3 ⟨q, rfl, hq, hqv, -, -, g3⟩
  have G3 := Lib.hid (below_step G2.out g3)
  have QA := Lib.hid hq; have QV := Lib.hid hqv
  clear g3 hq G2
  go_wp2_with fail
  refine (Print_any q w3 a (HT.out.below G3.out) QA.out).mono ?_
  rintro e w4 ⟨rfl, g4⟩
  have G4 := Lib.hid (below_step G3.out g4)
  clear g4 G3 QA
  have e1 : printS q.f = Fl.text q.f := if_pos hqv
  have e2 : printE q.f = 0 := if_pos hqv
  have hTL := Fl.text_short hqv
  have hLn := Fl.lines_text (Fl.valid_iff.1 hqv)
  have hD2 := bodies_len2 hqv
  have hcat := Fl.text_cat q.f
  have HFE := Lib.hid (fun (k : Nat) hk (b : List UInt8) hb hi hn more => Fl.first_error hqv k hk (b := b) hb hi hn more)
  rw [e1, e2]
  clear hqv QV e1 e2
  generalize Fl.text q.f = T at *
  generalize Fl.bodies q.f = D at *
  subst hcat
  go_wp2_with fail
  refine (refLines_any (Fl.cat D) w4 (by omega)).mono ?_
  rintro e w5 ⟨la, lc, rfl, hrow, g5⟩
  have G5 := Lib.hid (below_step G4.out g5)
  rw [hLn] at hrow
  have hSA := strA_own rfl hrow
  obtain ⟨lb, lo, hla, hlb, hcell⟩ := row_cells hSA
  subst hla
  have HC := Lib.hid hcell
  have hlen : (Fl.lines (Fl.cat D)).length = D.length + 1 := by rw [hLn]; simp
  rw [hlen]
  clear hSA hrow hcell hlen hLn g5 G4
  have d1 : decide (((D.length + 1 : Nat) : Int) < 2) = false := by simp; omega
  have hDm : D.length ≤ 8192 := by have := cat_len D; omega
  have d2 : wrap64 (D.length : Int) = (D.length : Int) := IntWalk.wrap64_in _ (by omega)
  go_upto_region 7 with (fail)
  have PK := Lib.hid (fun w => pick_any at0 (D.length : Int) w ⟨l0, u0⟩ (by omega))
  obtain ⟨q0, q1⟩ := pickZ_bd (c := at0) (n := (D.length : Int)) (by omega)
  obtain ⟨k, hk⟩ := Int.eq_ofNat_of_zero_le q0
  rw [hk] at PK q1
  have hkD : k < D.length := by omega
  clear hk q0 q1
  go_wp2_with fail
  refine (PK.out _).mono ?_; rintro e wd ⟨rfl, rfl⟩
  clear d1 d2 PK
  go_wp2_with fail
  go_loopg [15, 16] k (fun g s i wr => ∃ j : Nat, j ≤ k ∧ g = k - j ∧ s = .string (bs (Fl.cat (D.take j))) ∧ i = .int .i64 (j : Int) ∧ wr = w5)
  case atStart => exact ⟨0, by omega, by omega, rfl, rfl, rfl⟩
  case round =>
    obtain ⟨j, hj, rfl, rfl, rfl, rfl⟩ := hrel
    by_cases hlt : j < k
    · have hjD : j < D.length := by omega
      have c0 := HC.out j hjD
      have hcl := cat_at_len hjD
      have hsu := cat_take_succ D j hjD
      have a1 := add_bs (Fl.cat (D.take j)) D[j] (by omega)
      have a2 := add_bs (Fl.cat (D.take j) ++ D[j]) [10] (by simp; omega)
      rw [← hsu] at a2
      have e9 : IntKind.i64.wrap ((j : Int) + 1) = (j : Int) + 1 := IntWalk.i64_in _ (by omega)
      have hlc : j < D.length + 1 := by omega
      clear hsu hcl
      go_wp2_with fail
      go_roundg (k - (j + 1))
      case rel => exact ⟨j + 1, hlt, rfl, rfl, by go_num, rfl⟩
      case measure => omega
    · obtain rfl : j = k := by omega
      go_upto_region 13 with (fail)
      have BC := Lib.hid (bad_cell wr)
      have PK2 := Lib.hid (fun w => pick_any wh 14 w ⟨l1, u1⟩ (by omega))
      obtain ⟨q0, q1⟩ := pickZ_bd (c := wh) (n := 14) (by omega)
      obtain ⟨m, hm⟩ := Int.eq_ofNat_of_zero_le q0
      rw [hm] at PK2 q1
      have hm14 : m < 14 := by omega
      clear hm q0 q1
      go_wp2_with fail
      refine (PK2.out _).mono ?_; rintro e wd ⟨rfl, rfl⟩
      have G6 := Lib.hid (below_step G5.out (below_new wr (.cells #[.string ⟨#[115, 116, 101, 112]⟩, .string ⟨#[119, 105, 110, 100, 111, 119, 32, 51, 32, 51, 32, 53]⟩, .string ⟨#[109, 111, 118, 101, 32, 51, 46, 46, 50]⟩, .string ⟨#[115, 116, 101, 112, 32, 57, 57, 32, 114, 101, 99, 105, 112, 101, 32, 49, 32, 116, 111, 111, 108, 115, 32, 49, 32, 116, 105, 109, 101, 32, 49, 46, 46, 49, 32, 110, 101, 120, 116, 32, 45]⟩, .string ⟨#[120]⟩, .string ⟨#[32]⟩, .string ⟨#[119, 105, 110, 100, 111, 119, 32, 48, 32, 49, 32, 54, 48, 32]⟩, .string ⟨#[115, 116, 101, 112, 32, 48, 32, 114, 101, 99, 105, 112, 101, 32, 48, 32, 116, 111, 111, 108, 115, 32, 49, 32, 116, 105, 109, 101, 32, 49, 46, 46, 49, 32, 110, 101, 120, 116, 32, 45]⟩, .string ⟨#[115, 116, 101, 112, 32, 48, 32, 114, 101, 99, 105, 112, 101, 32, 49, 32, 116, 111, 111, 108, 115, 32, 50, 44, 49, 32, 116, 105, 109, 101, 32, 49, 46, 46, 49, 32, 110, 101, 120, 116, 32, 45]⟩, .string ⟨#[115, 116, 101, 112, 32, 48, 32, 114, 101, 99, 105, 112, 101, 32, 49, 32, 116, 111, 111, 108, 115, 32, 49, 32, 116, 105, 109, 101, 32, 48, 46, 46, 49, 32, 110, 101, 120, 116, 32, 45]⟩, .string ⟨#[115, 116, 101, 112, 32, 48, 32, 114, 101, 99, 105, 112, 101, 32, 49, 32, 116, 111, 111, 108, 115, 32, 49, 32, 116, 105, 109, 101, 32, 49, 46, 46, 49, 32, 110, 101, 120, 116, 32, 48, 49]⟩, .string ⟨#[115, 116, 101, 112, 32, 48, 32, 114, 101, 99, 105, 112, 101, 32, 49, 32, 116, 111, 111, 108, 115, 32, 49, 32, 116, 105, 109, 101, 32, 49, 46, 46, 49, 32, 110, 101, 120, 116, 32, 45, 32, 98, 97, 99, 107, 32, 48]⟩, .string ⟨#[115, 116, 101, 112, 32, 48, 32, 114, 101, 99, 105, 112, 101, 32, 49, 32, 116, 111, 111, 108, 115, 32, 49, 32, 116, 105, 109, 101, 32, 49, 46, 46, 49, 32, 110, 101, 120, 116, 32, 45, 32, 98, 97, 99, 107, 32, 48, 32, 108, 105, 109, 105, 116, 32, 48]⟩, .string ⟨#[109, 111, 118, 101, 32, 49, 46, 46, 50, 32]⟩] 9)))
      have c1 := BC.out m hm14
      have hlt6 : wr.heap.size < (wr.alloc (.cells #[.string ⟨#[115, 116, 101, 112]⟩, .string ⟨#[119, 105, 110, 100, 111, 119, 32, 51, 32, 51, 32, 53]⟩, .string ⟨#[109, 111, 118, 101, 32, 51, 46, 46, 50]⟩, .string ⟨#[115, 116, 101, 112, 32, 57, 57, 32, 114, 101, 99, 105, 112, 101, 32, 49, 32, 116, 111, 111, 108, 115, 32, 49, 32, 116, 105, 109, 101, 32, 49, 46, 46, 49, 32, 110, 101, 120, 116, 32, 45]⟩, .string ⟨#[120]⟩, .string ⟨#[32]⟩, .string ⟨#[119, 105, 110, 100, 111, 119, 32, 48, 32, 49, 32, 54, 48, 32]⟩, .string ⟨#[115, 116, 101, 112, 32, 48, 32, 114, 101, 99, 105, 112, 101, 32, 48, 32, 116, 111, 111, 108, 115, 32, 49, 32, 116, 105, 109, 101, 32, 49, 46, 46, 49, 32, 110, 101, 120, 116, 32, 45]⟩, .string ⟨#[115, 116, 101, 112, 32, 48, 32, 114, 101, 99, 105, 112, 101, 32, 49, 32, 116, 111, 111, 108, 115, 32, 50, 44, 49, 32, 116, 105, 109, 101, 32, 49, 46, 46, 49, 32, 110, 101, 120, 116, 32, 45]⟩, .string ⟨#[115, 116, 101, 112, 32, 48, 32, 114, 101, 99, 105, 112, 101, 32, 49, 32, 116, 111, 111, 108, 115, 32, 49, 32, 116, 105, 109, 101, 32, 48, 46, 46, 49, 32, 110, 101, 120, 116, 32, 45]⟩, .string ⟨#[115, 116, 101, 112, 32, 48, 32, 114, 101, 99, 105, 112, 101, 32, 49, 32, 116, 111, 111, 108, 115, 32, 49, 32, 116, 105, 109, 101, 32, 49, 46, 46, 49, 32, 110, 101, 120, 116, 32, 48, 49]⟩, .string ⟨#[115, 116, 101, 112, 32, 48, 32, 114, 101, 99, 105, 112, 101, 32, 49, 32, 116, 111, 111, 108, 115, 32, 49, 32, 116, 105, 109, 101, 32, 49, 46, 46, 49, 32, 110, 101, 120, 116, 32, 45, 32, 98, 97, 99, 107, 32, 48]⟩, .string ⟨#[115, 116, 101, 112, 32, 48, 32, 114, 101, 99, 105, 112, 101, 32, 49, 32, 116, 111, 111, 108, 115, 32, 49, 32, 116, 105, 109, 101, 32, 49, 46, 46, 49, 32, 110, 101, 120, 116, 32, 45, 32, 98, 97, 99, 107, 32, 48, 32, 108, 105, 109, 105, 116, 32, 48]⟩, .string ⟨#[109, 111, 118, 101, 32, 49, 46, 46, 50, 32]⟩] 9)).heap.size := by simp
      have b1 := Fl.bads_no _ (List.getElem_mem (l := Fl.bads) hm14)
      obtain ⟨b2, b3, b4⟩ := Fl.bads_clean _ (List.getElem_mem (l := Fl.bads) hm14)
      clear PK2 BC
      generalize wr.alloc (.cells #[.string ⟨#[115, 116, 101, 112]⟩, .string ⟨#[119, 105, 110, 100, 111, 119, 32, 51, 32, 51, 32, 53]⟩, .string ⟨#[109, 111, 118, 101, 32, 51, 46, 46, 50]⟩, .string ⟨#[115, 116, 101, 112, 32, 57, 57, 32, 114, 101, 99, 105, 112, 101, 32, 49, 32, 116, 111, 111, 108, 115, 32, 49, 32, 116, 105, 109, 101, 32, 49, 46, 46, 49, 32, 110, 101, 120, 116, 32, 45]⟩, .string ⟨#[120]⟩, .string ⟨#[32]⟩, .string ⟨#[119, 105, 110, 100, 111, 119, 32, 48, 32, 49, 32, 54, 48, 32]⟩, .string ⟨#[115, 116, 101, 112, 32, 48, 32, 114, 101, 99, 105, 112, 101, 32, 48, 32, 116, 111, 111, 108, 115, 32, 49, 32, 116, 105, 109, 101, 32, 49, 46, 46, 49, 32, 110, 101, 120, 116, 32, 45]⟩, .string ⟨#[115, 116, 101, 112, 32, 48, 32, 114, 101, 99, 105, 112, 101, 32, 49, 32, 116, 111, 111, 108, 115, 32, 50, 44, 49, 32, 116, 105, 109, 101, 32, 49, 46, 46, 49, 32, 110, 101, 120, 116, 32, 45]⟩, .string ⟨#[115, 116, 101, 112, 32, 48, 32, 114, 101, 99, 105, 112, 101, 32, 49, 32, 116, 111, 111, 108, 115, 32, 49, 32, 116, 105, 109, 101, 32, 48, 46, 46, 49, 32, 110, 101, 120, 116, 32, 45]⟩, .string ⟨#[115, 116, 101, 112, 32, 48, 32, 114, 101, 99, 105, 112, 101, 32, 49, 32, 116, 111, 111, 108, 115, 32, 49, 32, 116, 105, 109, 101, 32, 49, 46, 46, 49, 32, 110, 101, 120, 116, 32, 48, 49]⟩, .string ⟨#[115, 116, 101, 112, 32, 48, 32, 114, 101, 99, 105, 112, 101, 32, 49, 32, 116, 111, 111, 108, 115, 32, 49, 32, 116, 105, 109, 101, 32, 49, 46, 46, 49, 32, 110, 101, 120, 116, 32, 45, 32, 98, 97, 99, 107, 32, 48]⟩, .string ⟨#[115, 116, 101, 112, 32, 48, 32, 114, 101, 99, 105, 112, 101, 32, 49, 32, 116, 111, 111, 108, 115, 32, 49, 32, 116, 105, 109, 101, 32, 49, 46, 46, 49, 32, 110, 101, 120, 116, 32, 45, 32, 98, 97, 99, 107, 32, 48, 32, 108, 105, 109, 105, 116, 32, 48]⟩, .string ⟨#[109, 111, 118, 101, 32, 49, 46, 46, 50, 32]⟩] 9) = w6 at *
      generalize Fl.bads[m] = b at *
      have hkl := cat_take_len D j
      have hE := HFE.out j (by omega) b b1 b2 b3 (more.take 200)
      have hE' : Fl.parse (Fl.cat (D.take j) ++ b ++ [10] ++ more.take 200) = .error (j + 1) := by simpa [List.append_assoc] using hE
      have hml : (more.take 200).length ≤ 200 := by simp; omega
      have PE := Lib.hid (fun w ht => parse_err hE' w a ht (by simp only [List.length_append, List.length_cons, List.length_nil]; omega))
      have hmx : (bs more).extract 0 (min (more.length : Int) 200).toNat = bs (more.take 200) := by
        rw [extract_bs, List.drop_zero]
        congr 1
        rw [show (min (more.length : Int) 200).toNat = min more.length 200 by omega]
        rw [Nat.min_comm, ← List.take_take, List.take_length]
      have hms : (bs more).size = more.length := bs_size more
      have a1 := add_bs (Fl.cat (D.take j)) b (by omega)
      have a2 := add_bs (Fl.cat (D.take j) ++ b) [10] (by simp only [List.length_append, List.length_cons, List.length_nil]; omega)
      have a3 := add_bs (Fl.cat (D.take j) ++ b ++ [10]) (more.take 200) (by simp only [List.length_append, List.length_cons, List.length_nil]; omega)
      clear hE hE' hkl b1 b2 b3 b4 HFE HC hml
      generalize more.take 200 = mm at *
      generalize Fl.cat (D.take j) = cc at *
      generalize cc ++ b = u1 at *
      generalize u1 ++ [10] = u2 at *
      generalize u2 ++ mm = U at *
      go_wp2_with fail
      refine (PE.out w6 (HT.out.below G6.out)).mono ?_
      rintro e w7 ⟨rfl, g7⟩
      have G7 := Lib.hid (below_step G6.out g7)
      have G8 := Lib.hid (below_step G7.out (below_new w7 (.cells #[.int .i64 0, .int .i64 0, .slice none 0 0, .slice none 0 0] 25)))
      have e9 : IntKind.i64.wrap ((j : Int) + 1) = (j : Int) + 1 := IntWalk.i64_in _ (by omega)
      have e11 : (((j : Int) + 1) == (j : Int) + 1) = true := by simp
      clear a1 a2 a3 hmx hms g7 G5 G6 PE hTL hD2 hlb hDm hkD hj hm14 hlt6
      go_upto_region 15 with (fail)
      go_wp2_with fail
      go_ret
      exact ⟨rfl, G8.out⟩
end Go.Proofs.YtblnfcffalaeaaaGreatDoor
