/-
  The calls on a calendar that is known by its pointer alone; the fixed examples of the statements.
-/
import Derived.Test.YtjdhjlhcdpekbaaBooked
namespace Go.Proofs.Ytjdhjlhcdpekbaa
open Go.RowKit Go.Shelf

/-- At C lies a calendar with the lists K, in memory that is new since W. -/
def CalIs (C : Nat) (K : Kal.Kal) (W w : World) : Prop := ∃ d : CalP, d.C = C ∧ CalAt W.heap.size d K w ∧ Below W.heap.size W w
theorem CalIs.below {C : Nat} {K : Kal.Kal} {W w w' : World} (h : CalIs C K W w) (hb : Below w.heap.size w w') : CalIs C K W w' := by
  obtain ⟨d, h1, h2, h3⟩ := h; exact ⟨d, h1, h2.below hb, below_step h3 hb⟩
theorem CalIs.bel {C : Nat} {K : Kal.Kal} {W w : World} (h : CalIs C K W w) : Below W.heap.size W w := by obtain ⟨d, h1, h2, h3⟩ := h; exact h3
theorem new_is (W : World) : Calls Try.prog 37 #[] W fun e w' => ∃ C, e = .returned (.pointer (some ⟨C, 0, none⟩)) ∧ CalIs C Kal.empty W w' :=
  (New_any W).mono fun _ _ ⟨h1, h2, h3⟩ => ⟨_, h1, newP W, rfl, h2, h3⟩
theorem book_is {C : Nat} {K : Kal.Kal} {W w : World} (b : Kal.Bk) (h : CalIs C K W w) : Calls Try.prog 33 #[.pointer (some ⟨C, 0, none⟩), bkV b] w fun e w' => e = .returned (.int .i64 (if Kal.free K b = true then 0 else 70)) ∧ CalIs C (Kal.book K b) W w' := by
  obtain ⟨d, h1, h2, h3⟩ := h
  exact (Book_at C b h2 h1).mono fun _ _ ⟨c', he, hm⟩ => ⟨he, c', hm.same.1.trans h1, hm.at_, hm.bel h3 (fun j hj => (h2.lt j hj).1)⟩
theorem first_is {C : Nat} {K : Kal.Kal} {W w : World} (t f n : Int) (h : CalIs C K W w) (hf : Fits f) (hn : Fits n) : Calls Try.prog 48 #[.pointer (some ⟨C, 0, none⟩), .int .i64 t, .int .i64 f, .int .i64 n] w (FirstPost (firstK K t f n) w) := by
  obtain ⟨d, h1, h2, h3⟩ := h
  have := First_any t f n h2 hf hn
  unfold CalP.ptr at this; rw [h1] at this; exact this
theorem busy_is {C : Nat} {K : Kal.Kal} {W w : World} (t s e : Int) (h : CalIs C K W w) : Calls Try.prog 40 #[.pointer (some ⟨C, 0, none⟩), .int .i64 t, .int .i64 s, .int .i64 e] w fun r w' => r = .returned (.bool (busyK K t s e)) ∧ Below w.heap.size w w' := by
  obtain ⟨d, h1, h2, h3⟩ := h
  have := Busy_any t s e h2
  unfold CalP.ptr at this; rw [h1] at this; exact this
theorem len_is {C : Nat} {K : Kal.Kal} {W w : World} (h : CalIs C K W w) : Calls Try.prog 34 #[.pointer (some ⟨C, 0, none⟩)] w fun e w' => e = .returned (.int .i64 ((Kal.all K).length : Int)) ∧ w = w' := by
  obtain ⟨d, h1, h2, h3⟩ := h
  have := Len_any h2
  unfold CalP.ptr at this; rw [h1] at this; exact this
theorem list_is {C : Nat} {K : Kal.Kal} {W w : World} (t : Int) (h : CalIs C K W w) : Calls Try.prog 32 #[.pointer (some ⟨C, 0, none⟩), .int .i64 t] w (NewRow w (if Kal.isTool t = true then K t.toNat else [])) := by
  obtain ⟨d, h1, h2, h3⟩ := h
  have := List_any t h2
  unfold CalP.ptr at this; rw [h1] at this; exact this
/-- A row of bookings, as a slice. -/
def RowLen (w : World) (n : Nat) (e : Ending) (w' : World) : Prop := ∃ a c, e = .returned (.slice a n c) ∧ Below w.heap.size w w'
theorem NewRow.len {w w' : World} {l : List Kal.Bk} {e : Ending} (h : NewRow w l e w') : RowLen w l.length e w' := by
  obtain ⟨v, rfl, h1, h2⟩ := h
  obtain ⟨a, c, rfl, _⟩ := h1.form
  exact ⟨a, c, rfl, h2⟩

abbrev e1 : Kal.Bk := ⟨3, 10, 20, 1⟩
abbrev e2 : Kal.Bk := ⟨3, 20, 25, 2⟩
abbrev e3 : Kal.Bk := ⟨3, 19, 20, 2⟩
abbrev eK : Kal.Kal := Kal.book (Kal.book (Kal.book Kal.empty e1) e2) e3
theorem ex_free : Kal.free Kal.empty e1 = true ∧ Kal.free (Kal.book Kal.empty e1) e2 = true ∧ Kal.free (Kal.book (Kal.book Kal.empty e1) e2) e3 = false := by decide +kernel
theorem ex_first : firstK eK 3 0 10 = some 0 ∧ firstK eK 3 0 11 = some 25 ∧ firstK eK 3 12 5 = some 25 ∧ firstK eK 4 12 5 = some 12 ∧ firstK eK 3 999999 2 = none := by decide +kernel
theorem ex_busy : busyK eK 3 5 10 = false ∧ busyK eK 3 5 11 = true ∧ busyK eK 3 24 30 = true ∧ busyK eK 3 12 12 = false := by decide +kernel
theorem ex_gone : countO eK 1 = 1 ∧ firstK (Kal.drop eK 1) 3 0 11 = some 0 ∧ (Kal.all (Kal.drop eK 1)).length = 1 ∧ (Kal.owned (Kal.drop eK 1) 2).length = 1 := by decide +kernel
end Go.Proofs.Ytjdhjlhcdpekbaa

