/-
  The law file's own example plan and scenarios.
-/
import Derived.Test.YtngpkipblcihaaaRuy
namespace Go.Proofs.Ytngpkipblcihaaa
open Go.RowKit

def exPlan : Pl.Plan := ⟨0, 5, 10, [⟨20, 30, ⟨1, 10⟩, ⟨3, 50⟩⟩, ⟨20, 30, ⟨2, 60⟩, ⟨4, 100⟩⟩], [⟨0, 1, 40⟩]⟩
def exScen (tool at_ : Int) : Pl.Scen := ⟨[20, 20], [5, 5], 5, tool, at_⟩
/-- A block made in a world of known size, behind later ones. -/
theorem new_at (w : World) (o : Obj) (n : Nat) (h : w.heap.size = n) : (w.alloc o).heap[n]? = some o := by subst h; exact heap_alloc_new w o
theorem rowA_block {α : Type} {f : α → List Value} {k : Nat} (hf : ∀ x, (f x).length = k) {w : World} {g : Nat} {t : TypeId} {L : List α} {cs : Array Value} (h : w.heap[g]? = some (.cells cs t)) (hc : cs.toList = L.flatMap f) (hl : L.length ≤ 1000) : RowA f k w (some ⟨g, 0, none⟩) L.length L := by
  refine ⟨Nat.le_refl _, by unfold maxLen; omega, fun i hi => ⟨g, 0, rfl, lt_of_block h, fun j v hv => ?_⟩⟩
  have hj : j < k := by rw [← hf L[i]]; exact (List.getElem?_eq_some_iff.1 hv).1
  have := flat_at f k hf L i j hi hj
  rw [← hc] at this
  refine box_cell h _ _ ?_
  rw [← Array.getElem?_toList, show 0 + i * k + j = i * k + j by omega, this]; exact hv
set_option maxRecDepth 100000 in
set_option maxHeartbeats 2000000 in
theorem quick_any (tool at_ : Int) (w : World) : Calls Try.prog 25 #[.int .i64 tool, .int .i64 at_] w fun e w' => ∃ da ma, e = .returned (ScenP.val ⟨exScen tool at_, da, 2, ma, 2⟩) ∧ ScenP.ok ⟨exScen tool at_, da, 2, ma, 2⟩ w' ∧ Below w.heap.size w w' := by
  go_enter Try.func25, Try.ntmps25
  go_wp2_with fail
  obtain ⟨O0, hO0⟩ : ∃ O, O = Obj.cells #[.slice (some ⟨w.heap.size + 1, 0, none⟩) 2 2, .slice (some ⟨w.heap.size + 1 + 1, 0, none⟩) 2 2, .int .i64 5, .int .i64 tool, .int .i64 at_] 32 := ⟨_, rfl⟩
  rw [← hO0]
  have h1 := box_below (new_at (w.alloc O0) (.cells #[.int .i64 20, .int .i64 20] 3) (w.heap.size + 1) (by simp)) (below_new _ (.cells #[.int .i64 5, .int .i64 5] 3))
  have h2 := new_at ((w.alloc O0).alloc (.cells #[.int .i64 20, .int .i64 20] 3)) (.cells #[.int .i64 5, .int .i64 5] 3) (w.heap.size + 1 + 1) (by simp)
  have h0 := box_below (box_below (heap_alloc_new w O0) (below_new _ (.cells #[.int .i64 20, .int .i64 20] 3))) (below_new _ (.cells #[.int .i64 5, .int .i64 5] 3))
  have hb : Below w.heap.size w (((w.alloc O0).alloc (.cells #[.int .i64 20, .int .i64 20] 3)).alloc (.cells #[.int .i64 5, .int .i64 5] 3)) := below_step (below_step (below_new _ _) (below_new _ _)) (below_new _ _)
  generalize ((w.alloc O0).alloc (.cells #[.int .i64 20, .int .i64 20] 3)).alloc (.cells #[.int .i64 5, .int .i64 5] 3) = W at *
  subst hO0
  have r0 := box_cell h0 0 _ rfl
  have r1 := box_cell h0 1 _ rfl
  have r2 := box_cell h0 2 _ rfl
  have r3 := box_cell h0 3 _ rfl
  have r4 := box_cell h0 4 _ rfl
  refine bodyPost_ret (v := ScenP.val ⟨exScen tool at_, some ⟨w.heap.size + 1, 0, none⟩, 2, some ⟨w.heap.size + 1 + 1, 0, none⟩, 2⟩) (by simp [results, Try.results25, go_sem, r0, r1, r2, r3, r4, exScen]) rfl ?_
  exact ⟨_, _, rfl, ⟨rowA_block (L := [20, 20]) int_len h1 rfl (by decide), rowA_block (L := [5, 5]) int_len h2 rfl (by decide)⟩, hb⟩
set_option maxRecDepth 100000 in
set_option maxHeartbeats 2000000 in
theorem example_any (w : World) : Calls Try.prog 24 #[] w fun e w' => ∃ sa wa, e = .returned (PlanP.val ⟨exPlan, sa, 2, wa, 1⟩) ∧ PlanP.ok ⟨exPlan, sa, 2, wa, 1⟩ w' ∧ Below w.heap.size w w' := by
  go_enter Try.func24, Try.ntmps24
  go_wp2_with fail
  obtain ⟨O0, hO0⟩ : ∃ O, O = Obj.cells #[.int .i64 0, .int .i64 5, .int .i64 10, .slice (some ⟨w.heap.size + 1 + 1 + 1, 0, none⟩) 2 2, .slice (some ⟨w.heap.size + 1 + 1 + 1 + 1, 0, none⟩) 1 1] 28 := ⟨_, rfl⟩
  rw [← hO0]
  obtain ⟨O1, hO1⟩ : ∃ O, O = Obj.cells #[.int .i64 20, .int .i64 30, .int .i64 1, .int .i64 10, .int .i64 3, .int .i64 50] 45 := ⟨_, rfl⟩
  obtain ⟨O2, hO2⟩ : ∃ O, O = Obj.cells #[.int .i64 20, .int .i64 30, .int .i64 2, .int .i64 60, .int .i64 4, .int .i64 100] 45 := ⟨_, rfl⟩
  obtain ⟨O3, hO3⟩ : ∃ O, O = Obj.cells #[.int .i64 20, .int .i64 30, .int .i64 1, .int .i64 10, .int .i64 3, .int .i64 50, .int .i64 20, .int .i64 30, .int .i64 2, .int .i64 60, .int .i64 4, .int .i64 100] 45 := ⟨_, rfl⟩
  obtain ⟨O4, hO4⟩ : ∃ O, O = Obj.cells #[.int .i64 0, .int .i64 1, .int .i64 40] 47 := ⟨_, rfl⟩
  rw [← hO1, ← hO2, ← hO3, ← hO4]
  have h0 := box_below (box_below (box_below (box_below (heap_alloc_new w O0) (below_new _ O1)) (below_new _ O2)) (below_new _ O3)) (below_new _ O4)
  have h3 := box_below (new_at (((w.alloc O0).alloc O1).alloc O2) O3 (w.heap.size + 1 + 1 + 1) (by simp)) (below_new _ O4)
  have h4 := new_at ((((w.alloc O0).alloc O1).alloc O2).alloc O3) O4 (w.heap.size + 1 + 1 + 1 + 1) (by simp)
  have hb : Below w.heap.size w (((((w.alloc O0).alloc O1).alloc O2).alloc O3).alloc O4) := below_step (below_step (below_step (below_step (below_new _ _) (below_new _ _)) (below_new _ _)) (below_new _ _)) (below_new _ _)
  generalize ((((w.alloc O0).alloc O1).alloc O2).alloc O3).alloc O4 = W at *
  subst hO0 hO3 hO4
  have r0 := box_cell h0 0 _ rfl
  have r1 := box_cell h0 1 _ rfl
  have r2 := box_cell h0 2 _ rfl
  have r3 := box_cell h0 3 _ rfl
  have r4 := box_cell h0 4 _ rfl
  refine bodyPost_ret (v := PlanP.val ⟨exPlan, some ⟨w.heap.size + 1 + 1 + 1, 0, none⟩, 2, some ⟨w.heap.size + 1 + 1 + 1 + 1, 0, none⟩, 1⟩) (by simp [results, Try.results24, go_sem, r0, r1, r2, r3, r4, exPlan]) rfl ?_
  exact ⟨_, _, rfl, ⟨rowA_block (L := [⟨20, 30, ⟨1, 10⟩, ⟨3, 50⟩⟩, ⟨20, 30, ⟨2, 60⟩, ⟨4, 100⟩⟩]) stage_len h3 rfl (by decide), rowA_block (L := [⟨0, 1, 40⟩]) win_len h4 rfl (by decide)⟩, hb⟩
end Go.Proofs.Ytngpkipblcihaaa
