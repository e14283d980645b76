/-
  The contract of Clone.
-/
import Derived.Test.YtjdhjlhcdpekbaaOwned
namespace Go.Proofs.Ytjdhjlhcdpekbaa
open Go.RowKit Go.Shelf

theorem CalAt.congr {B : Nat} {c : CalP} {K K' : Kal.Kal} {w : World} (h : CalAt B c K w) (e : ∀ i, i < 60 → K' i = K i) : CalAt B c K' w :=
  ⟨h.box, h.tab, fun i hi => by rw [e i hi]; exact h.rows i hi, h.apart, ⟨fun i hi => by rw [e i hi]; exact h.ok.srt i hi, fun i hi => by rw [e i hi]; exact h.ok.mem i hi⟩, h.lowC, h.lowT⟩
/-- The first k lists. -/
def partK (K : Kal.Kal) (k : Nat) : Kal.Kal := fun j => if j < k then K j else []
theorem partK_ok {K : Kal.Kal} (h : Kal.Ok K) (k : Nat) : Kal.Ok (partK K k) := by
  refine ⟨fun i hi => ?_, fun i hi b hb => ?_⟩
  · unfold partK; split
    · exact h.srt i hi
    · exact Kal.Srt.nil
  · unfold partK at hb; split at hb
    · exact h.mem i hi b hb
    · cases hb
theorem CalAt.mono {B B' : Nat} {c : CalP} {K : Kal.Kal} {w : World} (h : CalAt B c K w) (hB : B' ≤ B) : CalAt B' c K w :=
  ⟨h.box, h.tab, fun i hi => (h.rows i hi).mono hB, h.apart, h.ok, Nat.le_trans hB h.lowC, Nat.le_trans hB h.lowT⟩
/-- A new calendar, in memory of its own. -/
def NewCal (w : World) (K : Kal.Kal) (e : Ending) (w' : World) : Prop := ∃ d : CalP, e = .returned d.ptr ∧ CalAt w.heap.size d K w' ∧ Below w.heap.size w w'
end Go.Proofs.Ytjdhjlhcdpekbaa

