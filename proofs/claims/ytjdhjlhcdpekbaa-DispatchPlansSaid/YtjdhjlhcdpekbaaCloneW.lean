/-
  The walk of CalendarClone.
-/
import Derived.Test.YtjdhjlhcdpekbaaFirstW
namespace Go.Proofs.Ytjdhjlhcdpekbaa
open Go.RowKit Go.Shelf

theorem BkA.take {w : World} {a : Option Addr} {c : Nat} {l : List Kal.Bk} (h : BkA w a c l) (k : Nat) : BkA w a c (l.take k) := by
  refine ⟨by rw [List.length_take]; have := h.1; omega, h.2.1, fun i hi => ?_⟩
  rw [List.length_take] at hi
  obtain ⟨b, off, rfl, h1, h2⟩ := h.2.2 i (by omega)
  exact ⟨b, off, rfl, h1, by rw [List.getElem_take]; exact h2⟩
/-- A calendar of bookings in memory that is new since the call. -/
theorem CalIs.mono {C : Nat} {K : Kal.Kal} {W W0 w : World} (h : CalIs C K W w) (hb : Below W0.heap.size W0 W) : CalIs C K W0 w := by
  obtain ⟨d, h1, h2, h3⟩ := h
  exact ⟨d, h1, h2.mono hb.size, below_step hb h3⟩
/-- A row of the call's own, new since U, whose cells may be written. -/
def RowAt (U : World) (a : Option Addr) (n : Nat) (w : World) : Prop := 0 < n → ∃ g cs, a = some ⟨g, 0, none⟩ ∧ U.heap.size ≤ g ∧ w.heap[g]? = some (.cells cs 36) ∧ n * 4 ≤ cs.size
theorem BkOwn.rowAt {U w : World} {v : Value} {l : List Kal.Bk} (h : BkOwn w U.heap.size v l) : ∃ a c, v = .slice a l.length c ∧ l.length ≤ c ∧ c ≤ maxLen ∧ RowAt U a l.length w := by
  rcases h.2 with ⟨rfl, h0⟩ | ⟨g, cap, cur, rfl, h2, h3, h4, h5, h6, h7⟩
  · exact ⟨none, 0, by rw [h0], by omega, by decide, fun h => by omega⟩
  · exact ⟨_, cap, rfl, h4, h5, fun _ => ⟨g, cur, rfl, h2, h3, by rw [h6]; omega⟩⟩

end Go.Proofs.Ytjdhjlhcdpekbaa

