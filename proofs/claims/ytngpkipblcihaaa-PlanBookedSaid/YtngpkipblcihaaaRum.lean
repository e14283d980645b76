/-
  What Run keeps in memory while its loops run.
-/
import Derived.Test.YtngpkipblcihaaaRun
namespace Go.Proofs.Ytngpkipblcihaaa
open Go.RowKit

theorem ne_of_type {w : World} {i j : Nat} {cs ds : Array Value} {t u : TypeId} (h1 : w.heap[i]? = some (.cells cs t)) (h2 : w.heap[j]? = some (.cells ds u)) (h : t ≠ u) : i ≠ j := by
  rintro rfl; rw [h1] at h2; injection h2 with h2; injection h2 with _ h2; exact h h2
structure RunM (q : PlanP) (r : ScenP) (w0 : World) (n7 n8 : Nat) (a : Option Addr) (c : Nat) (V : List Pl.Visit) (k n : Int) (w : World) : Prop where
  pb : w.heap[w0.heap.size]? = some (planObj q)
  sb : w.heap[w0.heap.size + 1]? = some (scenObj r)
  lb : w.heap[w0.heap.size + 1 + 1]? = some (lateObj 0 0)
  vb : w.heap[n7]? = some (.cells #[.slice a V.length c] 34)
  kb : w.heap[n8]? = some (lateObj k n)
  row : VsO w w0.heap.size (.slice a V.length c) V
  bel : Below w0.heap.size w0 w
  bd : VBd V
  g7 : w0.heap.size + 1 + 1 < n7
  g8 : w0.heap.size + 1 + 1 < n8
theorem RunM.below {q : PlanP} {r : ScenP} {w0 : World} {n7 n8 : Nat} {a : Option Addr} {c : Nat} {V : List Pl.Visit} {k n : Int} {w w' : World} (h : RunM q r w0 n7 n8 a c V k n w) (hb : Below w.heap.size w w') : RunM q r w0 n7 n8 a c V k n w' :=
  ⟨box_below h.pb hb, box_below h.sb hb, box_below h.lb hb, box_below h.vb hb, box_below h.kb hb, h.row.below hb, below_step h.bel hb, h.bd, h.g7, h.g8⟩
theorem RunM.rowA {q : PlanP} {r : ScenP} {w0 : World} {n7 n8 : Nat} {a : Option Addr} {c : Nat} {V : List Pl.Visit} {k n : Int} {w : World} (h : RunM q r w0 n7 n8 a c V k n w) : VsA w a c V := by
  obtain ⟨a', c', e, h1, -⟩ := h.row.arg visit_len
  injection e with e1 _ e2; subst e1; subst e2; exact h1
/-- The lateness is written. -/
theorem RunM.late {q : PlanP} {r : ScenP} {w0 : World} {n7 n8 : Nat} {a : Option Addr} {c : Nat} {V : List Pl.Visit} {k n : Int} {w : World} (h : RunM q r w0 n7 n8 a c V k n w) (k' n' : Int) :
    RunM q r w0 n7 n8 a c V k' n' ((w.setCell ⟨n8, 0, none⟩ (.int .i64 k')).setCell ⟨n8, 1, none⟩ (.int .i64 n')) := by
  have two : ∀ b, b ≠ n8 → ((w.setCell ⟨n8, 0, none⟩ (.int .i64 k')).setCell ⟨n8, 1, none⟩ (.int .i64 n')).heap[b]? = w.heap[b]? := fun b hb => (Below.heap_setCell _ _ _ _ hb).trans (Below.heap_setCell _ _ _ _ hb)
  have g8 := h.g8
  refine ⟨(two _ (by omega)).trans h.pb, (two _ (by omega)).trans h.sb, (two _ (by omega)).trans h.lb, (two _ (ne_of_type h.vb h.kb (by decide))).trans h.vb, ?_, ?_, ?_, h.bd, h.g7, h.g8⟩
  · rw [block_set (block_set h.kb (o := 0) (.int .i64 k')) (o := 1) (.int .i64 n')]; rfl
  · refine own_ch (S := fun b => b = n8) h.row ⟨rfl, rfl, rfl, by simp [World.setCell], fun b _ hb => two b hb⟩ (fun b hb e => ?_)
    obtain ⟨cs, hcs⟩ := own_block h.row hb
    exact ne_of_type hcs h.kb (by decide) e
  · exact (h.bel.setCell (p := ⟨n8, 0, none⟩) (by show w0.heap.size ≤ n8; omega) _).setCell (p := ⟨n8, 1, none⟩) (by show w0.heap.size ≤ n8; omega) _
/-- A visit is appended. -/
theorem RunM.app {q : PlanP} {r : ScenP} {w0 : World} {n7 n8 : Nat} {a a' : Option Addr} {c c' : Nat} {V : List Pl.Visit} {k n : Int} {w wA w3 : World} (h : RunM q r w0 n7 n8 a c V k n w) (x : Pl.Visit) (hx : (0 ≤ x.start ∧ x.start ≤ 1000000) ∧ 0 ≤ x.fin ∧ x.fin ≤ 1010000)
    (hA : Below w.heap.size w wA) (hown : w3.ownsRow w0.heap.size 41 4 (.slice a' (V.length + 1) c') (V.length + 1) (V.flatMap visitCells ++ visitCells x)) (hg : wA.grownBy w3 (Value.slice a V.length c).ownBlock) :
    RunM q r w0 n7 n8 a' c' (V ++ [x]) k n (w3.setCell ⟨n7, 0, none⟩ (.slice a' (V.length + 1) c')) := by
  have hA' := h.below hA
  have g7 := h.g7
  have g8 := h.g8
  have far : ∀ b cs t, wA.heap[b]? = some (.cells cs t) → t ≠ 41 → b ≠ n7 → (w3.setCell ⟨n7, 0, none⟩ (.slice a' (V.length + 1) c')).heap[b]? = some (.cells cs t) := fun b cs t hb ht hn => by
    rw [Below.heap_setCell _ _ _ _ hn, hg.block b (lt_of_block hb) (fun e => ?_)]
    · exact hb
    · obtain ⟨ds, hds⟩ := own_block hA'.row (e.symm)
      exact ne_of_type hb hds ht rfl
  have hv3 : w3.heap[n7]? = some (.cells #[.slice a V.length c] 34) := by
    rw [hg.block n7 (lt_of_block hA'.vb) (fun e => ?_)]
    · exact hA'.vb
    · obtain ⟨ds, hds⟩ := own_block hA'.row (e.symm)
      exact ne_of_type hA'.vb hds (by decide) rfl
  refine ⟨far _ _ _ hA'.pb (by decide) (by omega), far _ _ _ hA'.sb (by decide) (by omega), far _ _ _ hA'.lb (by decide) (by omega), ?_, far _ _ _ hA'.kb (by decide) (ne_of_type hA'.kb hA'.vb (by decide)), ?_, ?_, ?_, g7, g8⟩
  · rw [block_set hv3]; simp
  · have hr : VsO w3 w0.heap.size (.slice a' (V ++ [x]).length c') (V ++ [x]) := by rw [List.length_append]; exact RowO.snoc hown
    refine own_ch (S := fun b => b = n7) hr (Ch.grown (grown_set (w := w3) n7 0 _) (fun b hb => by injection hb with hb; exact hb.symm)) (fun b hb e => ?_)
    obtain ⟨cs, hcs⟩ := own_block hr hb
    exact ne_of_type hcs hv3 (by decide) e
  · exact ((hA'.bel).grown hg (hA'.bel.size) (fun b hb => (hA'.row.lt b hb).1)).setCell (p := ⟨n7, 0, none⟩) (by show w0.heap.size ≤ n7; omega) _
  · intro y hy
    rcases List.mem_append.1 hy with hy | hy
    · exact h.bd y hy
    · simp at hy; subst hy; exact hx
/-- The cell of the visits, behind the append. -/
theorem RunM.vb3 {q : PlanP} {r : ScenP} {w0 : World} {n7 n8 : Nat} {a : Option Addr} {c : Nat} {V : List Pl.Visit} {k n : Int} {w wA w3 : World} (h : RunM q r w0 n7 n8 a c V k n w)
    (hA : Below w.heap.size w wA) (hg : wA.grownBy w3 (Value.slice a V.length c).ownBlock) : w3.heap[n7]? = some (.cells #[.slice a V.length c] 34) := by
  have hA' := h.below hA
  rw [hg.block n7 (lt_of_block hA'.vb) (fun e => ?_)]
  · exact hA'.vb
  · obtain ⟨ds, hds⟩ := own_block hA'.row (e.symm)
    exact ne_of_type hA'.vb hds (by decide) rfl
/-- What is returned. -/
theorem RunM.fin {q : PlanP} {r : ScenP} {w0 : World} {n7 n8 : Nat} {a : Option Addr} {c : Nat} {V : List Pl.Visit} {k n : Int} {w : World} (h : RunM q r w0 n7 n8 a c V k n w) (k' n' : Int) :
    VsO ((w.setCell ⟨w0.heap.size + 1 + 1, 0, none⟩ (.int .i64 k')).setCell ⟨w0.heap.size + 1 + 1, 1, none⟩ (.int .i64 n')) w0.heap.size (.slice a V.length c) V ∧
    Below w0.heap.size w0 ((w.setCell ⟨w0.heap.size + 1 + 1, 0, none⟩ (.int .i64 k')).setCell ⟨w0.heap.size + 1 + 1, 1, none⟩ (.int .i64 n')) ∧
    ((w.setCell ⟨w0.heap.size + 1 + 1, 0, none⟩ (.int .i64 k')).setCell ⟨w0.heap.size + 1 + 1, 1, none⟩ (.int .i64 n')).heap[w0.heap.size + 1 + 1]? = some (lateObj k' n') := by
  refine ⟨?_, ?_, ?_⟩
  · refine own_ch (S := fun b => b = w0.heap.size + 1 + 1) h.row ⟨rfl, rfl, rfl, by simp [World.setCell], fun b _ hb => (Below.heap_setCell _ _ _ _ hb).trans (Below.heap_setCell _ _ _ _ hb)⟩ (fun b hb e => ?_)
    obtain ⟨cs, hcs⟩ := own_block h.row hb
    exact ne_of_type hcs h.lb (by decide) e
  · exact (h.bel.setCell (p := ⟨w0.heap.size + 1 + 1, 0, none⟩) (by show w0.heap.size ≤ w0.heap.size + 1 + 1; omega) _).setCell (p := ⟨w0.heap.size + 1 + 1, 1, none⟩) (by show w0.heap.size ≤ w0.heap.size + 1 + 1; omega) _
  · rw [block_set (block_set h.lb (o := 0) (.int .i64 k')) (o := 1) (.int .i64 n')]; rfl
end Go.Proofs.Ytngpkipblcihaaa
