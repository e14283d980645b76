/-
  Contracts of the statements' booked and equal.
-/
import Derived.Test.YtjdhjlhcdpekbaaSome
namespace Go.Proofs.Ytjdhjlhcdpekbaa
open Go.RowKit Go.Shelf

def bookAll (L : List Kal.Bk) : Kal.Kal := L.foldl Kal.book Kal.empty
theorem bookAll_take (L : List Kal.Bk) (k : Nat) (h : k < L.length) : bookAll (L.take (k + 1)) = Kal.book (bookAll (L.take k)) L[k] := by
  unfold bookAll; rw [List.take_succ_eq_append_getElem h, List.foldl_append]; rfl
theorem Moved.bel {B : Nat} {c c' : CalP} {K : Kal.Kal} {w w' W : World} (h : Moved B c c' K w w') (hw : Below W.heap.size W w) (hS : ∀ k, c.owns k → W.heap.size ≤ k) : Below W.heap.size W w' := hw.trans (h.ch.below hw.size hS)
theorem CalAt.size {B : Nat} {c : CalP} {K : Kal.Kal} {w : World} (h : CalAt B c K w) : B ≤ w.heap.size := Nat.le_trans h.lowC (Nat.le_of_lt (lt_of_block h.box))
theorem Book_at {B : Nat} {c : CalP} {K : Kal.Kal} {w : World} (C : Nat) (b : Kal.Bk) (h : CalAt B c K w) (hC : c.C = C) : Calls Try.prog 33 #[.pointer (some ⟨C, 0, none⟩), bkV b] w (BookPost B c K b w) := by
  have := Book_any b h h.size
  unfold CalP.ptr at this; rw [hC] at this; exact this

/-- The same lists. -/
def eqK (K K' : Kal.Kal) : Bool := (List.range 60).all (fun i => decide (K i = K' i))
theorem eqK_true {K K' : Kal.Kal} : eqK K K' = true ↔ ∀ i, i < 60 → K i = K' i := by unfold eqK; simp
theorem eqK_len {K K' : Kal.Kal} (h : ∀ i, i < 60 → K i = K' i) : (Kal.all K).length = (Kal.all K').length := by
  have : ∀ k, k ≤ 60 → Kal.upTo K k = Kal.upTo K' k := by
    intro k hk
    induction k with
    | zero => rfl
    | succ k ih => rw [Kal.upTo_succ, Kal.upTo_succ, ih (by omega), h k (by omega)]
  unfold Kal.all; rw [this 60 (by omega)]
end Go.Proofs.Ytjdhjlhcdpekbaa

