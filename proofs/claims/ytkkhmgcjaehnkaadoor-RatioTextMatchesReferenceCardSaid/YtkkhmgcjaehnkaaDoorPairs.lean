/-
  The operations' contracts with their answers laid out, some or none.
-/
import Derived.Test.YtkkhmgcjaehnkaaDoorMade
import Derived.Test.YtkkhmgcjaehnkaaDoorSane
namespace Go.Proofs.YtkkhmgcjaehnkaaDoor
open Go.RowKit Go.Shelf

theorem Add_some {an ad bn bd p q : Int} {a : Addr} (h : addR an ad bn bd = some (p, q)) (fa : Fits an ∧ Fits ad) (fb : Fits bn ∧ Fits bd) : ∀ w, Tab a w →
    Calls Tryd.prog 15 #[ratV an ad, ratV bn bd] w fun e w' => e = .returned (.tuple #[ratV p q, .int .i64 0]) ∧ Below w.heap.size w w' := fun w ht => by
  have := Add_any an ad bn bd w a ht.err fa fb
  rw [h] at this; exact this
theorem Add_none {an ad bn bd : Int} {a : Addr} (h : addR an ad bn bd = none) (fa : Fits an ∧ Fits ad) (fb : Fits bn ∧ Fits bd) : ∀ w, Tab a w →
    Calls Tryd.prog 15 #[ratV an ad, ratV bn bd] w fun e w' => e = .returned (.tuple #[ratV 0 0, .int .i64 30]) ∧ Below w.heap.size w w' := fun w ht => by
  have := Add_any an ad bn bd w a ht.err fa fb
  rw [h] at this; exact this
theorem Add_gen (an ad bn bd : Int) (a : Addr) (fa : Fits an ∧ Fits ad) (fb : Fits bn ∧ Fits bd) : ∃ n d e : Int, ratRes (addR an ad bn bd) = .tuple #[ratV n d, .int .i64 e] ∧ ∀ w, Tab a w →
    Calls Tryd.prog 15 #[ratV an ad, ratV bn bd] w fun e' w' => e' = .returned (.tuple #[ratV n d, .int .i64 e]) ∧ Below w.heap.size w w' := by
  cases h : addR an ad bn bd with
  | none => exact ⟨0, 0, 30, rfl, Add_none h fa fb⟩
  | some x => obtain ⟨p, q⟩ := x; exact ⟨p, q, 0, rfl, Add_some h fa fb⟩
theorem Div_some {an ad bn bd p q : Int} {a : Addr} (h : divR an ad bn bd = some (p, q)) (fa : Fits an ∧ Fits ad) (fb : Fits bn ∧ Fits bd) : ∀ w, Tab a w →
    Calls Tryd.prog 17 #[ratV an ad, ratV bn bd] w fun e w' => e = .returned (.tuple #[ratV p q, .int .i64 0]) ∧ Below w.heap.size w w' := fun w ht => by
  have := Div_any an ad bn bd w a ht.err fa fb
  rw [h] at this; exact this
theorem Div_none {an ad bn bd : Int} {a : Addr} (h : divR an ad bn bd = none) (fa : Fits an ∧ Fits ad) (fb : Fits bn ∧ Fits bd) : ∀ w, Tab a w →
    Calls Tryd.prog 17 #[ratV an ad, ratV bn bd] w fun e w' => e = .returned (.tuple #[ratV 0 0, .int .i64 30]) ∧ Below w.heap.size w w' := fun w ht => by
  have := Div_any an ad bn bd w a ht.err fa fb
  rw [h] at this; exact this
theorem Div_gen (an ad bn bd : Int) (a : Addr) (fa : Fits an ∧ Fits ad) (fb : Fits bn ∧ Fits bd) : ∃ n d e : Int, ratRes (divR an ad bn bd) = .tuple #[ratV n d, .int .i64 e] ∧ ∀ w, Tab a w →
    Calls Tryd.prog 17 #[ratV an ad, ratV bn bd] w fun e' w' => e' = .returned (.tuple #[ratV n d, .int .i64 e]) ∧ Below w.heap.size w w' := by
  cases h : divR an ad bn bd with
  | none => exact ⟨0, 0, 30, rfl, Div_none h fa fb⟩
  | some x => obtain ⟨p, q⟩ := x; exact ⟨p, q, 0, rfl, Div_some h fa fb⟩
end Go.Proofs.YtkkhmgcjaehnkaaDoor
