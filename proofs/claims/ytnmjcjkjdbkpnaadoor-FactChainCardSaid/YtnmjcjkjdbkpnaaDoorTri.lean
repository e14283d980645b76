/-
  Three facts in one array: reading and writing one of them.
-/
import Derived.Test.YtnmjcjkjdbkpnaaDoorRtW
import Derived.Laws.CopyRow
import Derived.Deep.MidRow
namespace Go.Proofs.YtnmjcjkjdbkpnaaDoor
open Go.RowKit Go.Shelf Fc
attribute [local go_sem] Oper.semAt_some
def l3 (A B C : Fact) : List Value := (factC A).toList ++ ((factC B).toList ++ (factC C).toList)
abbrev c3 (A B C : Fact) : Array Value := (l3 A B C).toArray
theorem run_load_mid {w : World} {b off : Nat} {t : TypeId} {cs : Array Value} {G : Fact} (h : w.heap[b]? = some (.cells cs t)) (hr : (cs.toList.drop off).take 19 = (factC G).toList) : (loadVar 23 ⟨b, off, none⟩).run Tryd.prog w = .ok (factV G) w :=
  run_loadVar_mid w b off 23 (factC G).toList _ (fun j v hj => box_cell h (off + j) v (by
    have hlt : j < 19 := (List.getElem?_eq_some_iff.1 hj).1
    rw [← hr, List.getElem?_take, if_pos hlt, List.getElem?_drop] at hj
    rw [← Array.getElem?_toList]; exact hj)) Tryd.underlying23 rfl factInfo
theorem sem_load_mid {o : Oper} {a : Act} {w : World} (x : Operand) (ho : o.op = .load 23 x) (b off : Nat) (hx : a.eval x = .pointer (some ⟨b, off, none⟩)) {t : TypeId} (cs : Array Value) (G : Fact) (h : w.heap[b]? = some (.cells cs t)) (hr : (cs.toList.drop off).take 19 = (factC G).toList) : (execOp a.eval o).run Tryd.prog w = .ok (.value (factV G)) w := by
  simp only [execOp, ho, hx, Instr.loadAt, Instr.sureAddr, Sem.run_bind, Sem.run_pure, Result.andThen_ok, run_load_mid h hr]
theorem wpList_load_midF {ops : Array Oper} {rest : List Oper} {o : Oper} {a : Act} {w : World} {Q : Exit → Act → World → Prop} (hw : Region.wanted o (yielded ops a.tmps) = true) (x : Operand) (ho : o.op = .load 23 x) (b off : Nat) (hx : a.eval x = .pointer (some ⟨b, off, none⟩)) (t : TypeId) (cs : Array Value) (G : Fact) (h : w.heap[b]? = some (.cells cs t)) (hr : (cs.toList.drop off).take 19 = (factC G).toList)
    (hK : wpList Tryd.prog ops Q rest (a.put o.dst (factV G)) w) : wpList Tryd.prog ops Q (o :: rest) a w :=
  BigFrame.wpList_want hw fun K hK2 => by
    unfold Oper.wp
    rw [sem_load_mid x ho b off hx cs G h hr]
    exact hK2 _ _ hK
theorem run_store_midF {w : World} {b off : Nat} {t : TypeId} {old new : Array Value} (F : Fact) (hg : w.heap[b]? = some (.cells old t)) (hle : off + 19 ≤ old.size) (hn : (old.toList.take off ++ (factC F).toList ++ old.toList.drop (off + 19)).toArray = new) :
    (storeVar 23 ⟨b, off, none⟩ (factV F)).run Tryd.prog w = .ok () (w.setRow b new) := by
  have hc : ∀ v ∈ (factC F).toList, v.oneCell' = true := fun v hv => (Array.all_eq_true_iff_forall_mem.1 (fact_cells1 F)) v (by simpa using hv)
  have := run_storeCells_at (P := Tryd.prog) b off t (factC F).toList 0 old w hg (by simpa using hle) hc
  have hi := factInfo
  have he : w.setRow b (old.toList.take (off + 0) ++ (factC F).toList ++ old.toList.drop (off + 0 + (factC F).toList.length)).toArray = w.setRow b new := by rw [← hn]; rfl
  rw [he] at this
  cases hq : Tryd.prog.info? 23 with
  | none => simp [hq] at hi
  | some i =>
    have hs : (factC F).size = i.size := by simp only [hq, Option.map_some, Option.some.injEq] at hi; rw [hi]; rfl
    show (storeVar 23 ⟨b, off, none⟩ (.agg (factC F))).run Tryd.prog w = .ok () (w.setRow b new)
    generalize factC F = cs at *
    simp [storeVar, sizeOf, typeInfo, hq, Value.cells, hs, this]
theorem wpList_store_midF {ops : Array Oper} {rest : List Oper} {o : Oper} {a : Act} {w : World} {Q : Exit → Act → World → Prop} (hgd : o.guard = none) (hd : o.dst = none) (x y : Operand) (ho : o.op = .store 23 x y) (b off : Nat) (F : Fact) (hx : a.eval x = .pointer (some ⟨b, off, none⟩)) (hy : a.eval y = factV F) (t : TypeId)
    (old new : Array Value) (hg : w.heap[b]? = some (.cells old t)) (hle : off + 19 ≤ old.size) (hn : (old.toList.take off ++ (factC F).toList ++ old.toList.drop (off + 19)).toArray = new)
    (h : wpList Tryd.prog ops Q rest a (w.setRow b new)) : wpList Tryd.prog ops Q (o :: rest) a w :=
  wpList_plain hgd fun K hK => by
    unfold Oper.wp execOp
    simp only [ho, hx, hy, Instr.storeAt, Instr.sureAddr, Sem.run_bind, Sem.run_pure, Result.andThen_ok, run_store_midF F hg hle hn]
    exact hK (a.put o.dst undef) _ (by rw [hd]; exact h)
/-- Where the law's variables stand: the fact, the three rows, the three facts. -/
def ChS (W : World) (bl : Nat) (G : Fact) (va da xa : Obj) (tt : TypeId) (cs : Array Value) (w : World) : Prop :=
  w.heap[W.heap.size]? = some (factObj G) ∧ w.heap[W.heap.size + 1]? = some va ∧ w.heap[W.heap.size + 2]? = some da ∧ w.heap[W.heap.size + 3]? = some xa ∧ w.heap[bl]? = some (.cells cs tt) ∧ W.heap.size + 3 < bl ∧ Tab w ∧ 0 < W.heap.size ∧ Below W.heap.size W w
variable {W : World} {bl : Nat} {G : Fact} {va da xa : Obj} {tt : TypeId} {cs : Array Value} {w : World}
theorem ChS.below {w' : World} (h : ChS W bl G va da xa tt cs w) (hb : Below w.heap.size w w') : ChS W bl G va da xa tt cs w' := by
  obtain ⟨a, b, c, d, e, f, g, i, j⟩ := h
  exact ⟨box_below a hb, box_below b hb, box_below c hb, box_below d hb, box_below e hb, f, g.below hb, i, below_step j hb⟩
theorem ChS.drew (h : ChS W bl G va da xa tt cs w) : ChS W bl G va da xa tt cs w.drew := by
  obtain ⟨a, b, c, d, e, f, g, i, j⟩ := h
  exact ⟨a, b, c, d, e, f, g, i, j.drew⟩
theorem ChS.ch {w' : World} {cs' : Array Value} (h : ChS W bl G va da xa tt cs w) (hc : Ch (fun i => i = bl) w w') (h2 : w'.heap[bl]? = some (.cells cs' tt)) : ChS W bl G va da xa tt cs' w' := by
  obtain ⟨a, b, c, d, e, f, g, i, j⟩ := h
  exact ⟨(hc.block _ (lt_of_block a) (by omega)).trans a, (hc.block _ (lt_of_block b) (by omega)).trans b, (hc.block _ (lt_of_block c) (by omega)).trans c, (hc.block _ (lt_of_block d) (by omega)).trans d, h2, f, g.ch hc (by omega), i,
    j.trans (hc.below (B := W.heap.size) (by have := lt_of_block a; omega) (fun k e => by omega))⟩
theorem ChS.row (cs' : Array Value) (h : ChS W bl G va da xa tt cs w) : ChS W bl G va da xa tt cs' (w.setRow bl cs') :=
  h.ch (row_ch w bl cs') (setRow_heap w bl _ cs' _ _ h.2.2.2.2.1)
theorem ChS.cell (o : Nat) (u : Value) (h : ChS W bl G va da xa tt cs w) : ChS W bl G va da xa tt (cs.setIfInBounds o u) (w.setCell ⟨bl, o, none⟩ u) :=
  h.ch (one_ch w bl o u) (block_set h.2.2.2.2.1 u)
end Go.Proofs.YtnmjcjkjdbkpnaaDoor
