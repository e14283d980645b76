/-
  The contract of the statements' sides, under the contract of Node.
-/
import Derived.Test.YtbaggjhjkignkaaDoorHelp
namespace Go.Proofs.YtbaggjhjkignkaaDoor
open Go.RowKit Tree

theorem sidesR_len (H : ByteArray → ByteArray) (old : ByteArray) : ∀ (r : List ByteArray) (m n : Nat) (whole : Bool), (sidesR H old m n whole r).1.length ≤ r.length
  | [], m, n, whole => by unfold sidesR; simp
  | x :: r, m, n, whole => by
    have := sidesR_len H old r
    unfold sidesR
    by_cases h : n ≤ m
    · rw [if_pos h]; cases whole <;> simp
    · by_cases hl : m ≤ leftN n
      · rw [if_neg h, if_pos hl]; simp; exact this _ _ _
      · rw [if_neg h, if_neg hl]; simp; exact this _ _ _
theorem sidesR_size {H : ByteArray → ByteArray} (hH : ∀ s, (H s).size = 32) (old : ByteArray) (ho : old.size ≤ 100) : ∀ (r : List ByteArray) (m n : Nat) (whole : Bool), (∀ x ∈ r, x.size ≤ 100) → (sidesR H old m n whole r).2.size ≤ 100
  | [], m, n, whole, hx => by unfold sidesR; exact ho
  | x :: r, m, n, whole, hx => by
    unfold sidesR
    by_cases h : n ≤ m
    · rw [if_pos h]
      cases whole
      · exact hx _ (List.getLast_mem _)
      · exact ho
    · by_cases hl : m ≤ leftN n
      · rw [if_neg h, if_pos hl]; exact Nat.le_trans (Nat.le_of_eq (hH _)) (by omega)
      · rw [if_neg h, if_neg hl]; exact Nat.le_trans (Nat.le_of_eq (hH _)) (by omega)

/-- What sides answers. -/
def SidesEnd (L : List ByteArray) (v : ByteArray) (w : World) (e : Ending) (w' : World) : Prop :=
  ∃ l, e = .returned (.tuple #[l, .string v]) ∧ StrOwn w' w.heap.size l L ∧ (L = [] → l = .slice none 0 0) ∧ Below w.heap.size w w'

end Go.Proofs.YtbaggjhjkignkaaDoor

