/-
  Contracts of slices.DeleteFunc (at bookings of an owner) and Free.
-/
import Derived.Test.YtjdhjlhcdpekbaaDel
namespace Go.Proofs.Ytjdhjlhcdpekbaa
open Go.RowKit Go.Shelf

/-- What DeleteFunc leaves. -/
def DelPost (B : Nat) (v : Value) (l : List Kal.Bk) (o : Int) (w : World) (e : Ending) (w' : World) : Prop :=
  ∃ v', e = .returned v' ∧ BkOwn w' B v' (l.filter (fun b => !ofO o b)) ∧ Ch (fun i => v.ownBlock = some i) w w' ∧ ∀ i, v'.ownBlock = some i → v.ownBlock = some i
theorem DelPost.same {B : Nat} {v : Value} {l : List Kal.Bk} {o : Int} {w w' : World} (h : BkOwn w B v l) (hi : idxO l o = none) (hb : Below w.heap.size w w') : DelPost B v l o w (.returned v) w' := by
  have e : l.filter (fun b => !ofO o b) = l := List.filter_eq_self.2 (fun x hx => by have := List.findIdx?_eq_none_iff.1 hi x hx; simp [this])
  exact ⟨v, rfl, by rw [e]; exact own_below h hb, Ch.ofBelow hb, fun _ h => h⟩
theorem zero_booking : ∀ w : World, (zeroValue 36).run Try.prog w = .ok (.agg #[.int .i64 0, .int .i64 0, .int .i64 0, .int .i64 0]) w := fun w => by kernel_rfl
theorem zero_one (n : Nat) : ∀ u ∈ (Builtin.zeroCells (Value.agg #[.int .i64 0, .int .i64 0, .int .i64 0, .int .i64 0]).cells n).toList, u.oneCell' = true := by
  intro u hu
  simp [Builtin.zeroCells, Value.cells] at hu
  obtain ⟨a, _, rfl⟩ := hu
  rcases (show a % 4 = 0 ∨ a % 4 = 1 ∨ a % 4 = 2 ∨ a % 4 = 3 by omega) with h | h | h | h <;> rw [h] <;> rfl
/-- The first k lists without an owner's bookings. -/
def dropTo (K : Kal.Kal) (o : Int) (k : Nat) : Kal.Kal := fun j => if j < k then (K j).filter (fun b => !ofO o b) else K j
theorem dropTo_ok {K : Kal.Kal} (h : Kal.Ok K) (o : Int) (k : Nat) : Kal.Ok (dropTo K o k) := by
  refine ⟨fun i hi => ?_, fun i hi b hb => ?_⟩
  · unfold dropTo; split
    · exact (h.srt i hi).filter _
    · exact h.srt i hi
  · unfold dropTo at hb; split at hb
    · exact h.mem i hi b (List.mem_filter.1 hb).1
    · exact h.mem i hi b hb
/-- How many bookings an owner has. -/
def countO (K : Kal.Kal) (o : Int) : Int := (Kal.all K).length - (Kal.all (Kal.drop K o)).length
theorem Moved.congr {B : Nat} {c c' : CalP} {K K' : Kal.Kal} {w w' : World} (h : Moved B c c' K w w') (e : ∀ i, i < 60 → K' i = K i) : Moved B c c' K' w w' := ⟨h.at_.congr e, h.same, h.ch, h.owns⟩
/-- What Free leaves. -/
def FreePost (B : Nat) (c : CalP) (K : Kal.Kal) (o : Int) (w : World) (e : Ending) (w' : World) : Prop := ∃ c', e = .returned (.int .i64 (countO K o)) ∧ Moved B c c' (Kal.drop K o) w w'
end Go.Proofs.Ytjdhjlhcdpekbaa

