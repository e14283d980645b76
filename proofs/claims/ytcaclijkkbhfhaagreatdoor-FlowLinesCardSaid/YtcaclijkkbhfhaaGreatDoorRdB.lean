/-
  Contracts of the reader's span, and of numbers.
-/
import Derived.Test.YtcaclijkkbhfhaaGreatDoorRd
import Derived.Maps.AppendAt
import Derived.Deep.AppendLies
import Derived.Laws.AppendOwn
namespace Go.Proofs.YtcaclijkkbhfhaaGreatDoor
open Go.RowKit Go.Shelf

/-- What span reads. -/
def spanOf (w : List UInt8) : Option (Int × Int) := if (Lib.cut w [46, 46]).2.2 = true then (Fl.number (Lib.cut w [46, 46]).1).bind fun a => (Fl.number (Lib.cut w [46, 46]).2.1).bind fun b => some (a, b) else none
theorem two_spanOf {α} (r : Fl.Rest) (k : Int → Int → Fl.Rest → Option α) : Fl.two r k = match r with | none => none | some s => (spanOf (Lib.cut s [32]).1).bind fun p => k p.1 p.2 (tailR s) := by
  cases r with
  | none => rfl
  | some s =>
    unfold Fl.two Fl.word spanOf tailR
    simp only
    split
    · cases Fl.number (Lib.cut (Lib.cut s [32]).1 [46, 46]).1 with
      | none => rfl
      | some a => cases Fl.number (Lib.cut (Lib.cut s [32]).1 [46, 46]).2.1 <;> rfl
    · rfl

set_option maxRecDepth 100000 in
theorem rSpan_any (c : Rd) (R : Nat) (a : Addr) (w : World) (h : RdOk a R c w) :
    Calls Tryz.prog 102 #[.pointer (some ⟨R, 0, none⟩)] w
      (match c.r with | none => Fails a R c w | some s => match spanOf (Lib.cut s [32]).1 with | none => Fails a R c w | some (x, y) => Reads R (.tuple #[.int .i64 x, .int .i64 y]) { c with r := tailR s } w) := by
  have H := Lib.hid h
  cases hr : c.r with
  | none =>
    have HW := Lib.hid (word_none c R a w h hr)
    clear h hr
    simp only
    unfold Fails at *
    go_enter Tryz.func102, Tryz.ntmps102
    go_wp2_with fail
    refine HW.out.mono ?_; rintro e w1 ⟨rfl, o1, c', r1, l1⟩
    go_wp2_with fail
    exact ⟨rfl, rfl, o1, c', r1, l1⟩
  | some s =>
    have HW := Lib.hid (word_some c s R a w h hr)
    have hl := h.len
    rw [hr] at hl
    have HL := Lib.hid (show ((tailR s).getD []).length ≤ 1000000 from Nat.le_trans (tailR_len s) hl)
    have hl1 : (Lib.cut s [32]).1.length ≤ 1000000 := Nat.le_trans (cut_len1 _ _) hl
    have HN := Lib.hid (fun w ht => require_no w a ht)
    simp only
    generalize hz : (Lib.cut s [32]).1 = z at *
    have HC := Lib.hid (fun w ht => cut_any (bs z) (bs [46, 46]) w a ht (by rw [bs_size]; exact hl1))
    obtain ⟨u, hu⟩ : ∃ u, (Lib.cut z [46, 46]).1 = u := ⟨_, rfl⟩
    obtain ⟨v, hv⟩ : ∃ v, (Lib.cut z [46, 46]).2.1 = v := ⟨_, rfl⟩
    obtain ⟨B, hB⟩ : ∃ B, (Lib.cut z [46, 46]).2.2 = B := ⟨_, rfl⟩
    have lu : (bs u).size ≤ 1000000 := by rw [bs_size, ← hu]; exact Nat.le_trans (cut_len1 _ _) hl1
    have lv : (bs v).size ≤ 1000000 := by rw [bs_size, ← hv]; exact Nat.le_trans (cut_len2 _ _) hl1
    have hE : spanOf z = if B = true then (Fl.number u).bind fun a => (Fl.number v).bind fun b => some (a, b) else none := by unfold spanOf; rw [hu, hv, hB]
    have HC' : Hid (∀ w, Tab a w → Calls Tryz.prog 61 #[.string (bs z), .string (bs [46, 46])] w fun e w' => e = .returned (.tuple #[.string (bs u), .string (bs v), .bool B]) ∧ Below w.heap.size w w') := by
      have := HC.out; simp only at this; rw [hu, hv, hB] at this; exact Lib.hid this
    rw [hE]
    clear HC hE hu hv hB h hr hl hl1 hz
    cases B with
    | false =>
      simp only [Bool.false_eq_true, if_false]
      unfold Reads Fails at *
      go_enter Tryz.func102, Tryz.ntmps102
      go_wp2_with fail
      refine HW.out.mono ?_; rintro e w1 ⟨rfl, o1, r1⟩
      have O1 := Lib.hid o1; have R1 := Lib.hid r1; clear o1 r1
      have T1 := Lib.hid (H.out.only O1.out R1.out HL.out)
      go_wp2_with fail
      refine (HC'.out _ T1.out.tab).mono ?_; rintro e w2 ⟨rfl, g2⟩
      have O2 := Lib.hid (O1.out.step g2); have R2 := Lib.hid (R1.out.below g2); have T2 := Lib.hid (T1.out.tab.below g2); clear g2
      go_wp2_with fail
      refine (HN.out _ T2.out).mono ?_; rintro e w3 ⟨rfl, rfl⟩
      go_wp2_with fail
      exact ⟨rfl, rfl, O2.out, _, R2.out, rfl⟩
    | true =>
      simp only [if_true]
      cases hn : Fl.number u with
      | none =>
        have HA := Lib.hid (fun w ht => number_no (bs u) w a ht lu hn)
        clear hn lu lv
        simp only [Option.bind_none]
        unfold Reads Fails at *
        go_enter Tryz.func102, Tryz.ntmps102
        go_wp2_with fail
        refine HW.out.mono ?_; rintro e w1 ⟨rfl, o1, r1⟩
        have O1 := Lib.hid o1; have R1 := Lib.hid r1; clear o1 r1
        have T1 := Lib.hid (H.out.only O1.out R1.out HL.out)
        go_wp2_with fail
        refine (HC'.out _ T1.out.tab).mono ?_; rintro e w2 ⟨rfl, g2⟩
        have O2 := Lib.hid (O1.out.step g2); have R2 := Lib.hid (R1.out.below g2); have T2 := Lib.hid (T1.out.tab.below g2); clear g2
        go_wp2_with fail
        refine (require_yes _).mono ?_; rintro e w3 ⟨rfl, rfl⟩
        go_wp2_with fail
        refine (HA.out _ T2.out).mono ?_; rintro e w4 ⟨rfl, g4⟩
        have O4 := Lib.hid (O2.out.step g4); have R4 := Lib.hid (R2.out.below g4); clear g4
        go_wp2_with fail
        exact ⟨rfl, rfl, O4.out, _, R4.out, rfl⟩
      | some x =>
        have HA := Lib.hid (fun w ht => number_yes (bs u) x w a ht lu hn)
        cases hm : Fl.number v with
        | none =>
          have HB := Lib.hid (fun w ht => number_no (bs v) w a ht lv hm)
          clear hn hm lu lv
          simp only [Option.bind_none, Option.bind_some]
          unfold Reads Fails at *
          go_enter Tryz.func102, Tryz.ntmps102
          go_wp2_with fail
          refine HW.out.mono ?_; rintro e w1 ⟨rfl, o1, r1⟩
          have O1 := Lib.hid o1; have R1 := Lib.hid r1; clear o1 r1
          have T1 := Lib.hid (H.out.only O1.out R1.out HL.out)
          go_wp2_with fail
          refine (HC'.out _ T1.out.tab).mono ?_; rintro e w2 ⟨rfl, g2⟩
          have O2 := Lib.hid (O1.out.step g2); have R2 := Lib.hid (R1.out.below g2); have T2 := Lib.hid (T1.out.tab.below g2); clear g2
          go_wp2_with fail
          refine (require_yes _).mono ?_; rintro e w3 ⟨rfl, rfl⟩
          go_wp2_with fail
          refine (HA.out _ T2.out).mono ?_; rintro e w4 ⟨rfl, g4⟩
          have O4 := Lib.hid (O2.out.step g4); have R4 := Lib.hid (R2.out.below g4); have T4 := Lib.hid (T2.out.below g4); clear g4
          go_wp2_with fail
          refine (HB.out _ T4.out).mono ?_; rintro e w5 ⟨rfl, g5⟩
          have O5 := Lib.hid (O4.out.step g5); have R5 := Lib.hid (R4.out.below g5); clear g5
          go_wp2_with fail
          exact ⟨rfl, rfl, O5.out, _, R5.out, rfl⟩
        | some y =>
          have HB := Lib.hid (fun w ht => number_yes (bs v) y w a ht lv hm)
          clear hn hm lu lv
          simp only [Option.bind_some]
          unfold Reads at *
          go_enter Tryz.func102, Tryz.ntmps102
          go_wp2_with fail
          refine HW.out.mono ?_; rintro e w1 ⟨rfl, o1, r1⟩
          have O1 := Lib.hid o1; have R1 := Lib.hid r1; clear o1 r1
          have T1 := Lib.hid (H.out.only O1.out R1.out HL.out)
          go_wp2_with fail
          refine (HC'.out _ T1.out.tab).mono ?_; rintro e w2 ⟨rfl, g2⟩
          have O2 := Lib.hid (O1.out.step g2); have R2 := Lib.hid (R1.out.below g2); have T2 := Lib.hid (T1.out.tab.below g2); clear g2
          go_wp2_with fail
          refine (require_yes _).mono ?_; rintro e w3 ⟨rfl, rfl⟩
          go_wp2_with fail
          refine (HA.out _ T2.out).mono ?_; rintro e w4 ⟨rfl, g4⟩
          have O4 := Lib.hid (O2.out.step g4); have R4 := Lib.hid (R2.out.below g4); have T4 := Lib.hid (T2.out.below g4); clear g4
          go_wp2_with fail
          refine (HB.out _ T4.out).mono ?_; rintro e w5 ⟨rfl, g5⟩
          have O5 := Lib.hid (O4.out.step g5); have R5 := Lib.hid (R4.out.below g5); clear g5
          go_wp2_with fail
          go_ret2
          exact ⟨rfl, O5.out, R5.out⟩
end Go.Proofs.YtcaclijkkbhfhaaGreatDoor
