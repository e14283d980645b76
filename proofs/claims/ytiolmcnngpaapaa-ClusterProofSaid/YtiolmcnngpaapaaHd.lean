/-
  What the walks of the laws share: the arcs and Levels' lists as arguments.
-/
import Derived.Test.YtiolmcnngpaapaaMk
import Derived.Test.YtiolmcnngpaapaaSa
import Derived.Test.YtiolmcnngpaapaaLw
namespace Go.Proofs.Ytiolmcnngpaapaa
open Go.RowKit Go.Shelf Cy

/-- The statements' arcs, as an argument. -/
def ArcsA (w : World) (L : List Arc) (e : Ending) (w' : World) : Prop := ∃ a c, e = .returned (.slice a L.length c) ∧ ArcA w' a c L ∧ (∀ x, a = some x → w.heap.size ≤ x.block ∧ x.block < w'.heap.size) ∧ Below w.heap.size w w'
/-- Levels with lists as arguments, in the row of its own. -/
def LvB (n p : Int) (L : List Arc) (w : World) (e : Ending) (w' : World) : Prop :=
  ∃ sa sc ca cc, e = .returned (.tuple #[.slice sa (lvS n p L).length sc, .slice ca (natsI (lvC n p L)).length cc, .bool (lvB n p L)]) ∧ IntsA w' sa sc (lvS n p L) ∧ IntsA w' ca cc (natsI (lvC n p L)) ∧ Below w.heap.size w w'
theorem lvB_any (n p : Int) (hn : Fits n) (L : List Arc) (a : Option Addr) (c : Nat) (w : World) (hA : ArcA w a c L) (hS4 : ∀ x, a = some x → x.block < w.heap.size) :
    Calls Try.prog 31 #[.int .i64 n, .slice a L.length c, .int .i64 p] w (LvB n p L w) := (lv_any n p hn L a c w hA hS4).mono fun e w' ⟨sa, sc, ca, cc, he, h1, h2, hb⟩ => ⟨sa, sc, ca, cc, by rw [natsI_len]; exact he, h1, h2, hb⟩
theorem lvB_is {n : Nat} {p : Int} {L : List Arc} (hv : valid (n : Int) L = true) (hp : isPer p = true) : lvB (n : Int) p L = feas L n p := by
  unfold lvB feas; rw [hv, hp, Int.toNat_natCast]; rfl
/-- With starts: they, no cycle. Without: a cycle, no starts. -/
theorem lv_some {n : Nat} {p : Int} {L : List Arc} (hv : valid (n : Int) L = true) (hp : isPer p = true) {s : List Int} (h : starts p L n = some s) : lvB (n : Int) p L = true ∧ lvS (n : Int) p L = s ∧ natsI (lvC (n : Int) p L) = [] := by
  unfold lvB lvS lvC; rw [hv, hp, Int.toNat_natCast, h]; simp [natsI]
theorem lv_nil {n : Nat} {p : Int} {L : List Arc} (hv : valid (n : Int) L = true) (hp : isPer p = true) (h : starts p L n = none) : lvB (n : Int) p L = false ∧ lvS (n : Int) p L = [] ∧ natsI (lvC (n : Int) p L) = natsI (cyc p L n) := by
  unfold lvB lvS lvC; rw [hv, hp, Int.toNat_natCast, h]; simp
theorem pick_is (c n : Int) (hc : Fits c) (hn : 0 < n ∧ n ≤ 1000000000) (w : World) : Calls Try.prog 30 #[.int .i64 c, .int .i64 n] w fun e w' => e = .returned (.int .i64 (pickZ c n)) ∧ w' = w := (pick_any c n w hc hn).mono fun _ _ h => ⟨h.1, h.2.symm⟩
end Go.Proofs.Ytiolmcnngpaapaa

