/-
  The reference's names of the key fields, and its reading of a field.
-/
import Derived.Test.YtnmjcjkjdbkpnaaDoorRtW
namespace Go.Proofs.YtnmjcjkjdbkpnaaDoor
open Go.RowKit Go.Shelf Fc
attribute [local go_sem] Oper.semAt_some
/-- A row of names of fields. -/
def rowK (l : List Nat) : Array Value := (l.map fun x : Nat => Value.int .i64 (x : Int)).toArray
def KfPost (l : List Nat) (w : World) (e : Ending) (w' : World) : Prop :=
  e = .returned (.slice (some ⟨w.heap.size, 0, none⟩) l.length l.length) ∧ w'.heap[w.heap.size]? = some (.cells (rowK l) 3) ∧ Below w.heap.size w w'
set_option maxRecDepth 100000 in
set_option maxHeartbeats 4000000 in
theorem refKeyFields_any (k : Int) (w : World) : Calls Tryd.prog 24 #[.int .i64 k] w (KfPost (keyL k) w) := by
  unfold keyL
  by_cases h4 : k = 4
  · subst h4
    go_enter Tryd.func24, Tryd.ntmps24
    go_wp2_with fail
    go_ret
    exact ⟨rfl, heap_alloc_new w _, below_new w _⟩
  have e4 : (k == 4) = false := by simpa using h4
  rw [if_neg h4]
  by_cases h5 : k = 5
  · subst h5
    go_enter Tryd.func24, Tryd.ntmps24
    go_wp2_with fail
    go_ret
    exact ⟨rfl, heap_alloc_new w _, below_new w _⟩
  have e5 : (k == 5) = false := by simpa using h5
  rw [if_neg h5]
  by_cases h8 : k = 8
  · subst h8
    go_enter Tryd.func24, Tryd.ntmps24
    go_wp2_with fail
    go_ret
    exact ⟨rfl, heap_alloc_new w _, below_new w _⟩
  have e8 : (k == 8) = false := by simpa using h8
  rw [if_neg h8]
  by_cases h10 : k = 10
  · subst h10
    go_enter Tryd.func24, Tryd.ntmps24
    go_wp2_with fail
    go_ret
    exact ⟨rfl, heap_alloc_new w _, below_new w _⟩
  have e10 : (k == 10) = false := by simpa using h10
  rw [if_neg h10]
  go_enter Tryd.func24, Tryd.ntmps24
  go_wp2_with fail
  go_ret
  exact ⟨rfl, heap_alloc_new w _, below_new w _⟩
def getC (F : Fact) : Array Value := #[.int .i64 F.id, .int .i64 F.w, .int .i64 F.ot, .int .i64 F.lo, .int .i64 F.pr, .int .i64 F.tl, .int .i64 F.ch, .int .i64 F.st, .int .i64 F.rc, .int .i64 F.rv, .int .i64 F.ti, .int .i64 F.un, .int .i64 F.va, .int .i64 F.pa]
theorem getC_at (F : Fact) : ∀ x : Nat, x < 14 → (getC F)[x]? = some (.int .i64 (Fc.get F x))
  | 0, _ => rfl | 1, _ => rfl | 2, _ => rfl | 3, _ => rfl | 4, _ => rfl | 5, _ => rfl | 6, _ => rfl | 7, _ => rfl | 8, _ => rfl | 9, _ => rfl | 10, _ => rfl | 11, _ => rfl | 12, _ => rfl | 13, _ => rfl
  | n + 14, h => absurd h (by omega)
def IntPost (n : Int) (w : World) (e : Ending) (w' : World) : Prop := e = .returned (.int .i64 n) ∧ Below w.heap.size w w'
set_option maxRecDepth 100000 in
set_option maxHeartbeats 4000000 in
theorem refGet_any (F : Fact) (x : Nat) (hx : x < 14) (w : World) : Calls Tryd.prog 25 #[factV F, .int .i64 x] w (IntPost (Fc.get F x) w) := by
  have HF := Lib.hid (heap_alloc_new w (factObj F))
  have HB := Lib.hid (below_new w (factObj F))
  have hg := getC_at F x hx
  go_enter Tryd.func25, Tryd.ntmps25
  go_upto_region 1 with (fail)
  generalize w.alloc (factObj F) = w1 at *
  have c1 := box_cell HF.out 1 _ rfl
  have c7 := box_cell HF.out 7 _ rfl
  have c8 := box_cell HF.out 8 _ rfl
  have c9 := box_cell HF.out 9 _ rfl
  have c10 := box_cell HF.out 10 _ rfl
  have c11 := box_cell HF.out 11 _ rfl
  have c12 := box_cell HF.out 12 _ rfl
  have c13 := box_cell HF.out 13 _ rfl
  have c14 := box_cell HF.out 14 _ rfl
  have c15 := box_cell HF.out 15 _ rfl
  have c5 := box_cell HF.out 5 _ rfl
  have c6 := box_cell HF.out 6 _ rfl
  have c16 := box_cell HF.out 16 _ rfl
  have c17 := box_cell HF.out 17 _ rfl
  have hr : (w1.alloc (.cells #[.int .i64 F.id, .int .i64 F.w, .int .i64 F.ot, .int .i64 F.lo, .int .i64 F.pr, .int .i64 F.tl, .int .i64 F.ch, .int .i64 F.st, .int .i64 F.rc, .int .i64 F.rv, .int .i64 F.ti, .int .i64 F.un, .int .i64 F.va, .int .i64 F.pa] 3)).cell? ⟨w1.heap.size, x, none⟩ = some (.int .i64 (Fc.get F x)) := box_cell (heap_alloc_new w1 _) x _ hg
  have hx0 : (0 : Int) ≤ (x : Int) := by omega
  have hx1 : (x : Int) < 14 := by omega
  have HB2 := Lib.hid (below_step HB.out (below_new w1 (.cells #[.int .i64 F.id, .int .i64 F.w, .int .i64 F.ot, .int .i64 F.lo, .int .i64 F.pr, .int .i64 F.tl, .int .i64 F.ch, .int .i64 F.st, .int .i64 F.rc, .int .i64 F.rv, .int .i64 F.ti, .int .i64 F.un, .int .i64 F.va, .int .i64 F.pa] 3)))
  clear hg hx
  go_wp2_with fail
  go_ret
  exact ⟨rfl, HB2.out⟩
end Go.Proofs.YtnmjcjkjdbkpnaaDoor
