/-
  The statements' arcs, as integers determine them.
-/
import Derived.Test.YtiolmcnngpaapaaPq
import Derived.Deep.LoopGhost
import Derived.Deep.AppendLies
import Derived.Deep.RegionLawGrows
import Derived.Deep.RegionLaw
import Derived.Deep.RegionHeld3
namespace Go.Proofs.Ytiolmcnngpaapaa
open Go.RowKit Cy

def mkA (n : Int) (plain : Bool) (y : List Int) : Arc :=
  ⟨pickZ (y.getD 0 0) n, pickZ (y.getD 1 0) n, if plain then pickZ (y.getD 2 0) 41 else pickZ (y.getD 2 0) 61 - 20, if plain then pickZ (y.getD 3 0) 2 else pickZ (y.getD 3 0) 4 - 1⟩
def arcsTo (X : List (List Int)) (n : Int) (plain : Bool) (k : Nat) : List Arc := (X.take k).map (mkA n plain)
def arcsL (X : List (List Int)) (n : Int) (plain : Bool) : List Arc := arcsTo X n plain 20
theorem arcsTo_succ (X : List (List Int)) (n : Int) (plain : Bool) {k : Nat} (h : k < X.length) : arcsTo X n plain (k + 1) = arcsTo X n plain k ++ [mkA n plain X[k]] := by
  unfold arcsTo; rw [List.take_add_one, List.map_append, List.getElem?_eq_getElem h]; rfl
theorem arcsTo_len (X : List (List Int)) (n : Int) (plain : Bool) {k : Nat} (h : k ≤ X.length) : (arcsTo X n plain k).length = k := by simp [arcsTo]; omega
theorem arcsL_is (X : List (List Int)) (n : Int) (plain : Bool) {k : Nat} (hk : k ≤ X.length) (hk2 : k ≤ 20) (h : k = X.length ∨ k = 20) : arcsL X n plain = arcsTo X n plain k := by
  unfold arcsL arcsTo
  rcases h with rfl | rfl
  · rw [List.take_of_length_le hk2, List.take_of_length_le (Nat.le_refl _)]
  · rfl
theorem mkA_ok {n : Int} (hn : 0 < n) (plain : Bool) (y : List Int) : okArc n (mkA n plain y) = true := by
  have h1 := pickZ_bd (c := y.getD 0 0) hn
  have h2 := pickZ_bd (c := y.getD 1 0) hn
  have h3 := pickZ_bd (c := y.getD 2 0) (n := 41) (by omega)
  have h4 := pickZ_bd (c := y.getD 2 0) (n := 61) (by omega)
  have h5 := pickZ_bd (c := y.getD 3 0) (n := 2) (by omega)
  have h6 := pickZ_bd (c := y.getD 3 0) (n := 4) (by omega)
  unfold mkA
  generalize pickZ (y.getD 0 0) n = a at *
  generalize pickZ (y.getD 1 0) n = b at *
  generalize pickZ (y.getD 2 0) 41 = c at *
  generalize pickZ (y.getD 2 0) 61 = d at *
  generalize pickZ (y.getD 3 0) 2 = e at *
  generalize pickZ (y.getD 3 0) 4 = f at *
  rw [okArc_iff]
  cases plain <;> simp only [Bool.false_eq_true, if_false, if_true] <;> omega
theorem arcsL_len (X : List (List Int)) (n : Int) (plain : Bool) : (arcsL X n plain).length ≤ 20 := by unfold arcsL arcsTo; simp; omega
theorem arcsL_ok {X : List (List Int)} {n : Int} {plain : Bool} (hn : 0 < n) : ∀ a ∈ arcsL X n plain, okArc n a = true := by
  intro a ha
  unfold arcsL arcsTo at ha
  obtain ⟨y, _, rfl⟩ := List.mem_map.1 ha
  exact mkA_ok hn plain y
theorem arcsL_valid {X : List (List Int)} {n : Int} {plain : Bool} (hn : 1 ≤ n ∧ n ≤ 32) : valid n (arcsL X n plain) = true :=
  valid_iff.2 ⟨hn, by have := arcsL_len X n plain; omega, arcsL_ok (by omega)⟩
/-- The arcs' row, as the call's own. -/
def ArcsPost (w : World) (L : List Arc) (e : Ending) (w' : World) : Prop := ∃ v, e = .returned v ∧ ArcO w' w.heap.size v L ∧ Below w.heap.size w w'
theorem block_cell {w : World} {b : Nat} {cs : Array Value} {t : TypeId} (h : w.heap[b]? = some (.cells cs t)) (o : Nat) (v : Value) (hv : cs[o]? = some v) : w.cell? ⟨b, o, none⟩ = some v := box_cell h o v hv

end Go.Proofs.Ytiolmcnngpaapaa

