/-
  The contract of the statements' way, under the contracts of Leaf and Node.
-/
import Derived.Test.YtbaggjhjkignkaaDoorHelp
namespace Go.Proofs.YtbaggjhjkignkaaDoor
open Go.RowKit Tree

theorem wayR_ne (H : ByteArray → ByteArray) (s : ByteArray) : ∀ (r : List ByteArray) (n i : Nat), 0 < (wayR H s n i r).1.length
  | [], n, i => by unfold wayR; simp
  | x :: r, n, i => by
    unfold wayR
    by_cases h : n ≤ 1
    · simp [h]
    · by_cases hi : i < leftN n <;> simp [h, hi]
theorem wayR_len (H : ByteArray → ByteArray) (s : ByteArray) : ∀ (r : List ByteArray) (n i : Nat), (wayR H s n i r).1.length ≤ r.length + 1
  | [], n, i => by unfold wayR; simp
  | x :: r, n, i => by
    have := wayR_len H s r
    unfold wayR
    by_cases h : n ≤ 1
    · simp [h]
    · by_cases hi : i < leftN n
      · simp [h, hi]; exact this _ _
      · simp [h, hi]; exact this _ _
theorem wayR_size {H : ByteArray → ByteArray} (hH : ∀ s, (H s).size = 32) (s : ByteArray) : ∀ (r : List ByteArray) (n i : Nat), (wayR H s n i r).2.size = 32
  | [], n, i => by unfold wayR; exact hH _
  | x :: r, n, i => by
    unfold wayR
    by_cases h : n ≤ 1
    · rw [if_pos h]; exact hH _
    · by_cases hi : i < leftN n
      · rw [if_neg h, if_pos hi]; exact hH _
      · rw [if_neg h, if_neg hi]; exact hH _

/-- What way answers. -/
def WayEnd (L : List ByteArray) (v : ByteArray) (w : World) (e : Ending) (w' : World) : Prop :=
  ∃ l, e = .returned (.tuple #[l, .string v]) ∧ StrOwn w' w.heap.size l L ∧ Below w.heap.size w w'

end Go.Proofs.YtbaggjhjkignkaaDoor

