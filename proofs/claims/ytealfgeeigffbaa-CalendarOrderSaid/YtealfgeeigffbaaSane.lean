/-
  The statements' fixed examples hold (written by tools/l07_sane.py).
-/
import Derived.Test.YtealfgeeigffbaaIs
namespace Go.Proofs.Ytealfgeeigffbaa
open Go.RowKit Go.Shelf

def k1 : Kal.Kal := Kal.book Kal.empty e1
def k2 : Kal.Kal := Kal.book k1 e2
def k3 : Kal.Kal := eK
def k4 : Kal.Kal := Kal.drop eK 1
def ptrV (C : Nat) : Value := .pointer (some ⟨C, 0, none⟩)
theorem s_b1 {C : Nat} {W w : World} (h : CalIs C Kal.empty W w) : Calls Try.prog 14 #[.pointer (some ⟨C, 0, none⟩), .agg #[.int .i64 3, .int .i64 10, .int .i64 20, .int .i64 1]] w fun e w' => e = .returned (.int .i64 0) ∧ CalIs C k1 W w' := by
  refine (book_is e1 h).mono fun _ _ ⟨h1, h2⟩ => ⟨?_, h2⟩
  rw [h1, if_pos ex_free.1]
theorem s_b2 {C : Nat} {W w : World} (h : CalIs C k1 W w) : Calls Try.prog 14 #[.pointer (some ⟨C, 0, none⟩), .agg #[.int .i64 3, .int .i64 20, .int .i64 25, .int .i64 2]] w fun e w' => e = .returned (.int .i64 0) ∧ CalIs C k2 W w' := by
  refine (book_is e2 h).mono fun _ _ ⟨h1, h2⟩ => ⟨?_, h2⟩
  rw [h1, show Kal.free k1 e2 = true from ex_free.2.1, if_pos rfl]
theorem s_b3 {C : Nat} {W w : World} (h : CalIs C k2 W w) : Calls Try.prog 14 #[.pointer (some ⟨C, 0, none⟩), .agg #[.int .i64 3, .int .i64 19, .int .i64 20, .int .i64 2]] w fun e w' => e = .returned (.int .i64 70) ∧ CalIs C k3 W w' := by
  refine (book_is e3 h).mono fun _ _ ⟨h1, h2⟩ => ⟨?_, h2⟩
  rw [h1, show Kal.free k2 e3 = false from ex_free.2.2, if_neg (by decide)]
theorem s_f1 {C : Nat} {W w : World} (h : CalIs C k3 W w) : Calls Try.prog 19 #[.pointer (some ⟨C, 0, none⟩), .int .i64 3, .int .i64 0, .int .i64 10] w fun e w' => e = .returned (.tuple #[.int .i64 0, .bool true]) ∧ Below w.heap.size w w' := by
  refine (first_is 3 0 10 h (by decide) (by decide)).mono fun _ _ ⟨h1, h2⟩ => ⟨?_, h2⟩
  rw [h1, show firstK k3 3 0 10 = some 0 from ex_first.1]; rfl
theorem s_f2 {C : Nat} {W w : World} (h : CalIs C k3 W w) : Calls Try.prog 19 #[.pointer (some ⟨C, 0, none⟩), .int .i64 3, .int .i64 0, .int .i64 11] w fun e w' => e = .returned (.tuple #[.int .i64 25, .bool true]) ∧ Below w.heap.size w w' := by
  refine (first_is 3 0 11 h (by decide) (by decide)).mono fun _ _ ⟨h1, h2⟩ => ⟨?_, h2⟩
  rw [h1, show firstK k3 3 0 11 = some 25 from ex_first.2.1]; rfl
theorem s_f3 {C : Nat} {W w : World} (h : CalIs C k3 W w) : Calls Try.prog 19 #[.pointer (some ⟨C, 0, none⟩), .int .i64 3, .int .i64 12, .int .i64 5] w fun e w' => e = .returned (.tuple #[.int .i64 25, .bool true]) ∧ Below w.heap.size w w' := by
  refine (first_is 3 12 5 h (by decide) (by decide)).mono fun _ _ ⟨h1, h2⟩ => ⟨?_, h2⟩
  rw [h1, show firstK k3 3 12 5 = some 25 from ex_first.2.2.1]; rfl
theorem s_f4 {C : Nat} {W w : World} (h : CalIs C k3 W w) : Calls Try.prog 19 #[.pointer (some ⟨C, 0, none⟩), .int .i64 4, .int .i64 12, .int .i64 5] w fun e w' => e = .returned (.tuple #[.int .i64 12, .bool true]) ∧ Below w.heap.size w w' := by
  refine (first_is 4 12 5 h (by decide) (by decide)).mono fun _ _ ⟨h1, h2⟩ => ⟨?_, h2⟩
  rw [h1, show firstK k3 4 12 5 = some 12 from ex_first.2.2.2.1]; rfl
theorem s_f5 {C : Nat} {W w : World} (h : CalIs C k3 W w) : Calls Try.prog 19 #[.pointer (some ⟨C, 0, none⟩), .int .i64 3, .int .i64 999999, .int .i64 2] w fun e w' => e = .returned (.tuple #[.int .i64 0, .bool false]) ∧ Below w.heap.size w w' := by
  refine (first_is 3 999999 2 h (by decide) (by decide)).mono fun _ _ ⟨h1, h2⟩ => ⟨?_, h2⟩
  rw [h1, show firstK k3 3 999999 2 = none from ex_first.2.2.2.2]; rfl
theorem s_f6 {C : Nat} {W w : World} (h : CalIs C k4 W w) : Calls Try.prog 19 #[.pointer (some ⟨C, 0, none⟩), .int .i64 3, .int .i64 0, .int .i64 11] w fun e w' => e = .returned (.tuple #[.int .i64 0, .bool true]) ∧ Below w.heap.size w w' := by
  refine (first_is 3 0 11 h (by decide) (by decide)).mono fun _ _ ⟨h1, h2⟩ => ⟨?_, h2⟩
  rw [h1, show firstK k4 3 0 11 = some 0 from ex_gone.2.1]; rfl
theorem s_y1 {C : Nat} {W w : World} (h : CalIs C k3 W w) : Calls Try.prog 21 #[.pointer (some ⟨C, 0, none⟩), .int .i64 3, .int .i64 5, .int .i64 10] w fun e w' => e = .returned (.bool false) ∧ Below w.heap.size w w' := by
  refine (busy_is 3 5 10 h).mono fun _ _ ⟨h1, h2⟩ => ⟨?_, h2⟩
  rw [h1, show busyK k3 3 5 10 = false from ex_busy.1]
theorem s_y2 {C : Nat} {W w : World} (h : CalIs C k3 W w) : Calls Try.prog 21 #[.pointer (some ⟨C, 0, none⟩), .int .i64 3, .int .i64 5, .int .i64 11] w fun e w' => e = .returned (.bool true) ∧ Below w.heap.size w w' := by
  refine (busy_is 3 5 11 h).mono fun _ _ ⟨h1, h2⟩ => ⟨?_, h2⟩
  rw [h1, show busyK k3 3 5 11 = true from ex_busy.2.1]
theorem s_y3 {C : Nat} {W w : World} (h : CalIs C k3 W w) : Calls Try.prog 21 #[.pointer (some ⟨C, 0, none⟩), .int .i64 3, .int .i64 24, .int .i64 30] w fun e w' => e = .returned (.bool true) ∧ Below w.heap.size w w' := by
  refine (busy_is 3 24 30 h).mono fun _ _ ⟨h1, h2⟩ => ⟨?_, h2⟩
  rw [h1, show busyK k3 3 24 30 = true from ex_busy.2.2.1]
theorem s_y4 {C : Nat} {W w : World} (h : CalIs C k3 W w) : Calls Try.prog 21 #[.pointer (some ⟨C, 0, none⟩), .int .i64 3, .int .i64 12, .int .i64 12] w fun e w' => e = .returned (.bool false) ∧ Below w.heap.size w w' := by
  refine (busy_is 3 12 12 h).mono fun _ _ ⟨h1, h2⟩ => ⟨?_, h2⟩
  rw [h1, show busyK k3 3 12 12 = false from ex_busy.2.2.2]
theorem s_fr {C : Nat} {W w : World} (h : CalIs C k3 W w) : Calls Try.prog 17 #[.pointer (some ⟨C, 0, none⟩), .int .i64 1] w fun e w' => e = .returned (.int .i64 1) ∧ CalIs C k4 W w' := by
  refine (free_is 1 h).mono fun _ _ ⟨h1, h2⟩ => ⟨?_, h2⟩
  rw [h1, show countO k3 1 = 1 from ex_gone.1]
theorem s_ln {C : Nat} {W w : World} (h : CalIs C k4 W w) : Calls Try.prog 28 #[.pointer (some ⟨C, 0, none⟩)] w fun e w' => e = .returned (.int .i64 1) ∧ Below w.heap.size w w' := by
  refine (len_is h).mono fun _ _ ⟨h1, h2⟩ => ⟨?_, by rw [← h2]; exact Below.refl _ _⟩
  rw [h1, show (Kal.all k4).length = 1 from ex_gone.2.2.1]; rfl
theorem s_ow {C : Nat} {W w : World} (h : CalIs C k4 W w) : Calls Try.prog 26 #[.pointer (some ⟨C, 0, none⟩), .int .i64 2] w fun e w' => RowLen w 1 e w' := by
  refine (owned_is 2 h).mono fun _ _ h1 => ?_
  have := h1.len
  rwa [show (Kal.owned k4 2).length = 1 from ex_gone.2.2.2] at this
set_option maxRecDepth 100000 in
set_option maxHeartbeats 4000000 in
theorem sane_any (W : World) : Calls Try.prog 10 #[] W fun e w' => e = .returned (.bool true) ∧ Below W.heap.size W w' := by
  go_enter Try.func10, Try.ntmps10
  go_wp2_with fail
  refine (new_is W).mono ?_; rintro e w0 ⟨C, rfl, h0⟩
  have H := Lib.hid h0; clear h0
  go_wp2_with fail
  refine (s_b1 H.out).mono ?_; rintro e w1 ⟨rfl, h0⟩
  have H1 := Lib.hid h0; clear h0
  go_wp2_with fail
  refine (s_b2 H1.out).mono ?_; rintro e w2 ⟨rfl, h0⟩
  have H2 := Lib.hid h0; clear h0
  go_wp2_with fail
  refine (s_b3 H2.out).mono ?_; rintro e w3 ⟨rfl, h0⟩
  have H3 := Lib.hid h0; clear h0
  go_wp2_with fail
  refine (s_f1 H3.out).mono ?_; rintro e w4 ⟨rfl, h0⟩
  have H4 := Lib.hid (H3.out.below h0); clear h0
  go_wp2_with fail
  refine (s_f2 H4.out).mono ?_; rintro e w5 ⟨rfl, h0⟩
  have H5 := Lib.hid (H4.out.below h0); clear h0
  go_wp2_with fail
  refine (s_f3 H5.out).mono ?_; rintro e w6 ⟨rfl, h0⟩
  have H6 := Lib.hid (H5.out.below h0); clear h0
  go_wp2_with fail
  refine (s_f4 H6.out).mono ?_; rintro e w7 ⟨rfl, h0⟩
  have H7 := Lib.hid (H6.out.below h0); clear h0
  go_wp2_with fail
  refine (s_f5 H7.out).mono ?_; rintro e w8 ⟨rfl, h0⟩
  have H8 := Lib.hid (H7.out.below h0); clear h0
  go_wp2_with fail
  refine (s_y1 H8.out).mono ?_; rintro e w9 ⟨rfl, h0⟩
  have H9 := Lib.hid (H8.out.below h0); clear h0
  go_wp2_with fail
  refine (s_y2 H9.out).mono ?_; rintro e w10 ⟨rfl, h0⟩
  have H10 := Lib.hid (H9.out.below h0); clear h0
  go_wp2_with fail
  refine (s_y3 H10.out).mono ?_; rintro e w11 ⟨rfl, h0⟩
  have H11 := Lib.hid (H10.out.below h0); clear h0
  go_wp2_with fail
  refine (s_y4 H11.out).mono ?_; rintro e w12 ⟨rfl, h0⟩
  have H12 := Lib.hid (H11.out.below h0); clear h0
  go_wp2_with fail
  refine (s_fr H12.out).mono ?_; rintro e w13 ⟨rfl, h0⟩
  have H13 := Lib.hid h0; clear h0
  go_wp2_with fail
  refine (s_f6 H13.out).mono ?_; rintro e w14 ⟨rfl, h0⟩
  have H14 := Lib.hid (H13.out.below h0); clear h0
  go_wp2_with fail
  refine (First_nil 3 0 1 _).mono ?_; rintro e w15 ⟨rfl, h0⟩
  have H15 := Lib.hid (H14.out.below h0); clear h0
  unfold firstV
  simp only [Option.getD, Option.isSome]
  go_wp2_with fail
  refine (Book_nil ⟨0, 0, 0, 0⟩ _).mono ?_; rintro e w16 ⟨rfl, h0⟩
  have H16 := Lib.hid (H15.out.below h0); clear h0
  go_wp2_with fail
  refine (Len_nil _).mono ?_; rintro e w17 ⟨rfl, rfl⟩
  go_wp2_with fail
  refine (Free_nil 1 _).mono ?_; rintro e w18 ⟨rfl, h0⟩
  have H18 := Lib.hid (H16.out.below h0); clear h0
  go_wp2_with fail
  refine (Clone_nil _).mono ?_; rintro e w19 ⟨rfl, rfl⟩
  go_wp2_with fail
  refine (Busy_nil 3 1 2 _).mono ?_; rintro e w20 ⟨rfl, h0⟩
  have H20 := Lib.hid (H18.out.below h0); clear h0
  go_wp2_with fail
  refine ((List_nil 3 _).mono (fun _ _ h => h.len)).mono ?_; rintro e w21 ⟨a1, c1, rfl, h0⟩
  have H21 := Lib.hid (H20.out.below h0); clear h0
  go_wp2_with fail
  refine ((Owned_nil 3 _).mono (fun _ _ h => h.len)).mono ?_; rintro e w22 ⟨a2, c2, rfl, h0⟩
  have H22 := Lib.hid (H21.out.below h0); clear h0
  go_wp2_with fail
  refine (s_ln H22.out).mono ?_; rintro e w23 ⟨rfl, h0⟩
  have H23 := Lib.hid (H22.out.below h0); clear h0
  go_wp2_with fail
  refine (s_ow H23.out).mono ?_; rintro e w24 ⟨a3, c3, rfl, h0⟩
  have H24 := Lib.hid (H23.out.below h0); clear h0
  go_wp2_with fail
  go_ret
  exact ⟨rfl, H24.out.bel⟩
end Go.Proofs.Ytealfgeeigffbaa
