/-
  The statements' fixed examples hold (written by tools/l07_sane.py).
-/
import Derived.Test.YtjdhjlhcdpekbaaIs
namespace Go.Proofs.Ytjdhjlhcdpekbaa
open Go.RowKit Go.Shelf

def k1 : Kal.Kal := Kal.book Kal.empty e1
def k2 : Kal.Kal := Kal.book k1 e2
def k3 : Kal.Kal := eK
def k4 : Kal.Kal := Kal.drop eK 1
def ptrV (C : Nat) : Value := .pointer (some ⟨C, 0, none⟩)
theorem s_b1 {C : Nat} {W w : World} (h : CalIs C Kal.empty W w) : Calls Try.prog 33 #[.pointer (some ⟨C, 0, none⟩), .agg #[.int .i64 3, .int .i64 10, .int .i64 20, .int .i64 1]] w fun e w' => e = .returned (.int .i64 0) ∧ CalIs C k1 W w' := by
  refine (book_is e1 h).mono fun _ _ ⟨h1, h2⟩ => ⟨?_, h2⟩
  rw [h1, if_pos ex_free.1]
theorem s_b2 {C : Nat} {W w : World} (h : CalIs C k1 W w) : Calls Try.prog 33 #[.pointer (some ⟨C, 0, none⟩), .agg #[.int .i64 3, .int .i64 20, .int .i64 25, .int .i64 2]] w fun e w' => e = .returned (.int .i64 0) ∧ CalIs C k2 W w' := by
  refine (book_is e2 h).mono fun _ _ ⟨h1, h2⟩ => ⟨?_, h2⟩
  rw [h1, show Kal.free k1 e2 = true from ex_free.2.1, if_pos rfl]
theorem s_b3 {C : Nat} {W w : World} (h : CalIs C k2 W w) : Calls Try.prog 33 #[.pointer (some ⟨C, 0, none⟩), .agg #[.int .i64 3, .int .i64 19, .int .i64 20, .int .i64 2]] w fun e w' => e = .returned (.int .i64 70) ∧ CalIs C k3 W w' := by
  refine (book_is e3 h).mono fun _ _ ⟨h1, h2⟩ => ⟨?_, h2⟩
  rw [h1, show Kal.free k2 e3 = false from ex_free.2.2, if_neg (by decide)]
theorem s_f1 {C : Nat} {W w : World} (h : CalIs C k3 W w) : Calls Try.prog 48 #[.pointer (some ⟨C, 0, none⟩), .int .i64 3, .int .i64 0, .int .i64 10] w fun e w' => e = .returned (.tuple #[.int .i64 0, .bool true]) ∧ Below w.heap.size w w' := by
  refine (first_is 3 0 10 h (by decide) (by decide)).mono fun _ _ ⟨h1, h2⟩ => ⟨?_, h2⟩
  rw [h1, show firstK k3 3 0 10 = some 0 from ex_first.1]; rfl
theorem s_f2 {C : Nat} {W w : World} (h : CalIs C k3 W w) : Calls Try.prog 48 #[.pointer (some ⟨C, 0, none⟩), .int .i64 3, .int .i64 0, .int .i64 11] w fun e w' => e = .returned (.tuple #[.int .i64 25, .bool true]) ∧ Below w.heap.size w w' := by
  refine (first_is 3 0 11 h (by decide) (by decide)).mono fun _ _ ⟨h1, h2⟩ => ⟨?_, h2⟩
  rw [h1, show firstK k3 3 0 11 = some 25 from ex_first.2.1]; rfl
theorem s_f3 {C : Nat} {W w : World} (h : CalIs C k3 W w) : Calls Try.prog 48 #[.pointer (some ⟨C, 0, none⟩), .int .i64 3, .int .i64 12, .int .i64 5] w fun e w' => e = .returned (.tuple #[.int .i64 25, .bool true]) ∧ Below w.heap.size w w' := by
  refine (first_is 3 12 5 h (by decide) (by decide)).mono fun _ _ ⟨h1, h2⟩ => ⟨?_, h2⟩
  rw [h1, show firstK k3 3 12 5 = some 25 from ex_first.2.2.1]; rfl
theorem s_f4 {C : Nat} {W w : World} (h : CalIs C k3 W w) : Calls Try.prog 48 #[.pointer (some ⟨C, 0, none⟩), .int .i64 4, .int .i64 12, .int .i64 5] w fun e w' => e = .returned (.tuple #[.int .i64 12, .bool true]) ∧ Below w.heap.size w w' := by
  refine (first_is 4 12 5 h (by decide) (by decide)).mono fun _ _ ⟨h1, h2⟩ => ⟨?_, h2⟩
  rw [h1, show firstK k3 4 12 5 = some 12 from ex_first.2.2.2.1]; rfl
theorem s_f5 {C : Nat} {W w : World} (h : CalIs C k3 W w) : Calls Try.prog 48 #[.pointer (some ⟨C, 0, none⟩), .int .i64 3, .int .i64 999999, .int .i64 2] w fun e w' => e = .returned (.tuple #[.int .i64 0, .bool false]) ∧ Below w.heap.size w w' := by
  refine (first_is 3 999999 2 h (by decide) (by decide)).mono fun _ _ ⟨h1, h2⟩ => ⟨?_, h2⟩
  rw [h1, show firstK k3 3 999999 2 = none from ex_first.2.2.2.2]; rfl
theorem s_f6 {C : Nat} {W w : World} (h : CalIs C k4 W w) : Calls Try.prog 48 #[.pointer (some ⟨C, 0, none⟩), .int .i64 3, .int .i64 0, .int .i64 11] w fun e w' => e = .returned (.tuple #[.int .i64 0, .bool true]) ∧ Below w.heap.size w w' := by
  refine (first_is 3 0 11 h (by decide) (by decide)).mono fun _ _ ⟨h1, h2⟩ => ⟨?_, h2⟩
  rw [h1, show firstK k4 3 0 11 = some 0 from ex_gone.2.1]; rfl
theorem s_y1 {C : Nat} {W w : World} (h : CalIs C k3 W w) : Calls Try.prog 40 #[.pointer (some ⟨C, 0, none⟩), .int .i64 3, .int .i64 5, .int .i64 10] w fun e w' => e = .returned (.bool false) ∧ Below w.heap.size w w' := by
  refine (busy_is 3 5 10 h).mono fun _ _ ⟨h1, h2⟩ => ⟨?_, h2⟩
  rw [h1, show busyK k3 3 5 10 = false from ex_busy.1]
theorem s_y2 {C : Nat} {W w : World} (h : CalIs C k3 W w) : Calls Try.prog 40 #[.pointer (some ⟨C, 0, none⟩), .int .i64 3, .int .i64 5, .int .i64 11] w fun e w' => e = .returned (.bool true) ∧ Below w.heap.size w w' := by
  refine (busy_is 3 5 11 h).mono fun _ _ ⟨h1, h2⟩ => ⟨?_, h2⟩
  rw [h1, show busyK k3 3 5 11 = true from ex_busy.2.1]
theorem s_y3 {C : Nat} {W w : World} (h : CalIs C k3 W w) : Calls Try.prog 40 #[.pointer (some ⟨C, 0, none⟩), .int .i64 3, .int .i64 24, .int .i64 30] w fun e w' => e = .returned (.bool true) ∧ Below w.heap.size w w' := by
  refine (busy_is 3 24 30 h).mono fun _ _ ⟨h1, h2⟩ => ⟨?_, h2⟩
  rw [h1, show busyK k3 3 24 30 = true from ex_busy.2.2.1]
theorem s_y4 {C : Nat} {W w : World} (h : CalIs C k3 W w) : Calls Try.prog 40 #[.pointer (some ⟨C, 0, none⟩), .int .i64 3, .int .i64 12, .int .i64 12] w fun e w' => e = .returned (.bool false) ∧ Below w.heap.size w w' := by
  refine (busy_is 3 12 12 h).mono fun _ _ ⟨h1, h2⟩ => ⟨?_, h2⟩
  rw [h1, show busyK k3 3 12 12 = false from ex_busy.2.2.2]
theorem s_ln {C : Nat} {W w : World} (h : CalIs C k4 W w) : Calls Try.prog 34 #[.pointer (some ⟨C, 0, none⟩)] w fun e w' => e = .returned (.int .i64 1) ∧ Below w.heap.size w w' := by
  refine (len_is h).mono fun _ _ ⟨h1, h2⟩ => ⟨?_, by rw [← h2]; exact Below.refl _ _⟩
  rw [h1, show (Kal.all k4).length = 1 from ex_gone.2.2.1]; rfl
end Go.Proofs.Ytjdhjlhcdpekbaa

