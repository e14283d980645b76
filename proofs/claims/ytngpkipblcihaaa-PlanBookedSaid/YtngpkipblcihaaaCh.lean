/-
  The contract of the reference's Chosen.
-/
import Derived.Test.YtngpkipblcihaaaMm
import Derived.Test.YtngpkipblcihaaaCd
import Derived.StillTailTactics
import Derived.BigRegion
import Derived.WalkMore
import Derived.Deep.LoopGhost
import Derived.Deep.DeepCutAuto
import Derived.Deep.RegionHeld3
import Derived.Deep.RegionLaw
import Derived.Deep.AppendLies
namespace Go.Proofs.Ytngpkipblcihaaa
open Go.RowKit

theorem ArrsA.two {w : World} {a : Option Addr} {c : Nat} {X : List (List Int)} (h : ArrsA 2 w a c X) {i : Nat} (hi : i < X.length) : ∃ b off : Nat, a = some ⟨b, off, none⟩ ∧ b < w.heap.size ∧
    (w.cell? ⟨b, off + i * 2, none⟩ = some (.int .i64 (Pl.gI (X.getD i []) 0)) ∧ w.cell? ⟨b, off + i * 2 + 1, none⟩ = some (.int .i64 (Pl.gI (X.getD i []) 1))) ∧ Fits (Pl.gI (X.getD i []) 0) ∧ Fits (Pl.gI (X.getD i []) 1) := by
  obtain ⟨b, off, rfl, hb, hc⟩ := h.2.2.2 i hi
  obtain ⟨hl, hf⟩ := h.2.2.1 X[i] (List.getElem_mem hi)
  have e : X.getD i [] = X[i] := by rw [List.getD_eq_getElem?_getD, List.getElem?_eq_getElem hi]; rfl
  rw [e]
  generalize X[i] = y at *
  obtain ⟨y0, y1, rfl⟩ := two_list hl
  exact ⟨b, off, rfl, hb, ⟨hc 0 _ rfl, hc 1 _ rfl⟩, hf _ (by simp [Pl.gI]), hf _ (by simp [Pl.gI])⟩
/-- A mark for the walk: the operation at hand is an append. -/
theorem app_guard {P : Program} {ops : Array Oper} {a : Act} {w : World} {K : Act → World → Prop} {Q : Exit → Act → World → Prop} {E : Prop} {T : Array Value} {dst : Option Tmp} {s x : Operand} {t ty : TypeId} {pos : String} {after : Array Edge} {g : Option (Nat × Bool)}
    (h : if Region.wanted { dst := dst, op := Op.call { callee := Callee.builtin Builtin.append, args := #[s, x], argTypes := #[t, t] }, type := ty, pos := pos, after := after, guard := g } (yielded ops T) = true then Oper.wp P { dst := dst, op := Op.call { callee := Callee.builtin Builtin.append, args := #[s, x], argTypes := #[t, t] }, type := ty, pos := pos, after := after, guard := g } a w K Q else E) :
    if Region.wanted { dst := dst, op := Op.call { callee := Callee.builtin Builtin.append, args := #[s, x], argTypes := #[t, t] }, type := ty, pos := pos, after := after, guard := g } (yielded ops T) = true then Oper.wp P { dst := dst, op := Op.call { callee := Callee.builtin Builtin.append, args := #[s, x], argTypes := #[t, t] }, type := ty, pos := pos, after := after, guard := g } a w K Q else E := h
abbrev zeroScen : Obj := .cells #[.slice none 0 0, .slice none 0 0, .int .i64 0, .int .i64 0, .int .i64 0] 32
theorem info_int1 : (Try.prog.info? 3).map (fun i => (i.zero, i.size, i.bytes)) = some (some (.int .i64 0), 1, 8) := by kernel_rfl
/-- A scenario that is built beside its plan. -/
structure ChM (w0 : World) (q : PlanP) (r : ScenP) (w : World) : Prop where
  pb : w.heap[w0.heap.size]? = some (planObj q)
  rb : w.heap[w0.heap.size + 1]? = some zeroScen
  sb : w.heap[w0.heap.size + 1 + 1]? = some (scenObj r)
  drow : IntsO w w0.heap.size (.slice r.da r.s.dur.length r.dc) r.s.dur
  mrow : IntsO w w0.heap.size (.slice r.ma r.s.mv.length r.mc) r.s.mv
  apart : ∀ b, (Value.slice r.da r.s.dur.length r.dc).ownBlock = some b → (Value.slice r.ma r.s.mv.length r.mc).ownBlock ≠ some b
  bel : Below w0.heap.size w0 w
theorem ChM.below {w0 w w' : World} {q : PlanP} {r : ScenP} (h : ChM w0 q r w) (hb : Below w.heap.size w w') : ChM w0 q r w' :=
  ⟨box_below h.pb hb, box_below h.rb hb, box_below h.sb hb, h.drow.below hb, h.mrow.below hb, h.apart, below_step h.bel hb⟩
theorem ChM.size {w0 w : World} {q : PlanP} {r : ScenP} (h : ChM w0 q r w) : w0.heap.size + 1 + 1 < w.heap.size := lt_of_block h.sb
theorem ChM.ne {w0 w : World} {q : PlanP} {r : ScenP} (h : ChM w0 q r w) {j : Nat} {ds : Array Value} {u : TypeId} (hj : w.heap[j]? = some (.cells ds u)) (hu : u ≠ 3) : (∀ b, (Value.slice r.da r.s.dur.length r.dc).ownBlock = some b → b ≠ j) ∧ (∀ b, (Value.slice r.ma r.s.mv.length r.mc).ownBlock = some b → b ≠ j) := by
  refine ⟨fun b hb => ?_, fun b hb => ?_⟩
  · obtain ⟨cs, hcs⟩ := own_block h.drow hb
    exact ne_of_kind hcs hj (fun e => hu e.symm)
  · obtain ⟨cs, hcs⟩ := own_block h.mrow hb
    exact ne_of_kind hcs hj (fun e => hu e.symm)
/-- A box of another kind is written. -/
theorem ChM.other {w0 w : World} {q : PlanP} {r : ScenP} (h : ChM w0 q r w) {S : Nat} {cs : Array Value} {t : TypeId} (hS : w.heap[S]? = some (.cells cs t)) (ht : t ≠ 3) (hi : w0.heap.size + 1 + 1 < S) (o : Nat) (u : Value) : ChM w0 q r (w.setCell ⟨S, o, none⟩ u) := by
  have hc : Ch (fun k => k = S) w (w.setCell ⟨S, o, none⟩ u) := Ch.grown (grown_set (w := w) S o u) (fun k hk => by injection hk with hk; exact hk.symm)
  have hn := h.ne hS ht
  exact ⟨(hc.block _ (lt_of_block h.pb) (by omega)).trans h.pb, (hc.block _ (lt_of_block h.rb) (by omega)).trans h.rb, (hc.block _ (lt_of_block h.sb) (by omega)).trans h.sb, own_ch h.drow hc (fun k hk => hn.1 k hk), own_ch h.mrow hc (fun k hk => hn.2 k hk), h.apart, h.bel.setCell (p := ⟨S, o, none⟩) (by show w0.heap.size ≤ S; omega) u⟩
/-- A number of the scenario is written. -/
theorem ChM.num {w0 w : World} {q : PlanP} {du mv : List Int} {de tl at_ : Int} {da ma : Option Addr} {dc mc : Nat} (h : ChM w0 q ⟨⟨du, mv, de, tl, at_⟩, da, dc, ma, mc⟩ w) {de' tl' at' : Int} {o : Nat} {u : Int}
    (hu : (#[.slice da du.length dc, .slice ma mv.length mc, .int .i64 de, .int .i64 tl, .int .i64 at_] : Array Value).setIfInBounds o (.int .i64 u) = #[.slice da du.length dc, .slice ma mv.length mc, .int .i64 de', .int .i64 tl', .int .i64 at']) :
    ChM w0 q ⟨⟨du, mv, de', tl', at'⟩, da, dc, ma, mc⟩ (w.setCell ⟨w0.heap.size + 1 + 1, o, none⟩ (.int .i64 u)) := by
  have hc : Ch (fun k => k = w0.heap.size + 1 + 1) w (w.setCell ⟨w0.heap.size + 1 + 1, o, none⟩ (.int .i64 u)) := Ch.grown (grown_set (w := w) _ o _) (fun k hk => by injection hk with hk; exact hk.symm)
  have hn := h.ne h.sb (by decide)
  refine ⟨(hc.block _ (lt_of_block h.pb) (by omega)).trans h.pb, (hc.block _ (lt_of_block h.rb) (by omega)).trans h.rb, ?_, own_ch h.drow hc (fun k hk => hn.1 k hk), own_ch h.mrow hc (fun k hk => hn.2 k hk), h.apart, h.bel.setCell (p := ⟨w0.heap.size + 1 + 1, o, none⟩) (by show w0.heap.size ≤ w0.heap.size + 1 + 1; omega) _⟩
  rw [block_set h.sb, hu]
theorem ChM.dur {w0 w wA w3 : World} {q : PlanP} {du mv : List Int} {de tl at_ : Int} {da ma : Option Addr} {dc mc : Nat} (h : ChM w0 q ⟨⟨du, mv, de, tl, at_⟩, da, dc, ma, mc⟩ w) (x : Int) {a' : Option Addr} {c' : Nat} (hA : Below w.heap.size w wA)
    (hown : w3.ownsRow w0.heap.size 3 1 (.slice a' (du.length + 1) c') (du.length + 1) (du.flatMap intCells ++ intCells x)) (hg : wA.grownBy w3 (Value.slice da du.length dc).ownBlock)
    (hnew : ∀ k, (Value.slice a' (du.length + 1) c').ownBlock = some k → (Value.slice da du.length dc).ownBlock = some k ∨ wA.heap.size ≤ k) :
    ChM w0 q ⟨⟨du ++ [x], mv, de, tl, at_⟩, a', c', ma, mc⟩ (w3.setCell ⟨w0.heap.size + 1 + 1, 0, none⟩ (.slice a' (du.length + 1) c')) ∧ w3.heap[w0.heap.size + 1 + 1]? = some (scenObj ⟨⟨du, mv, de, tl, at_⟩, da, dc, ma, mc⟩) := by
  have hA' := h.below hA
  have far : ∀ {b : Nat} {cs : Array Value} {t : TypeId}, wA.heap[b]? = some (.cells cs t) → t ≠ 3 → w3.heap[b]? = some (.cells cs t) := fun {b cs t} hb ht => (hg.block _ (lt_of_block hb) (fun e => (hA'.ne hb ht).1 b e.symm rfl)).trans hb
  have hs3 := far hA'.sb (by decide)
  have hr : IntsO w3 w0.heap.size (.slice a' (du ++ [x]).length c') (du ++ [x]) := by rw [List.length_append]; exact RowO.snoc hown
  have hm3 : IntsO w3 w0.heap.size (.slice ma mv.length mc) mv := own_ch hA'.mrow (Ch.grown hg (S := fun k => (Value.slice da du.length dc).ownBlock = some k) (fun k hk => hk)) (fun k hk e => h.apart k e hk)
  have hc : Ch (fun k => k = w0.heap.size + 1 + 1) w3 (w3.setCell ⟨w0.heap.size + 1 + 1, 0, none⟩ (.slice a' (du.length + 1) c')) := Ch.grown (grown_set (w := w3) _ 0 _) (fun k hk => by injection hk with hk; exact hk.symm)
  have hp3 := far hA'.pb (by decide); have hz3 := far hA'.rb (by decide)
  refine ⟨⟨(hc.block _ (lt_of_block hp3) (by omega)).trans hp3, (hc.block _ (lt_of_block hz3) (by omega)).trans hz3, ?_, own_ch hr hc (fun k hk e => ?_), own_ch hm3 hc (fun k hk e => ?_), fun b hb hb2 => ?_, ?_⟩, hs3⟩
  · rw [block_set hs3]; simp
  · obtain ⟨cs, hcs⟩ := own_block hr hk
    exact ne_of_kind hcs hs3 (by decide) e
  · obtain ⟨cs, hcs⟩ := own_block hm3 hk
    exact ne_of_kind hcs hs3 (by decide) e
  · have hl := (hA'.mrow.lt b hb2).2
    rw [List.length_append] at hb
    rcases hnew b hb with h1 | h1
    · exact h.apart b h1 hb2
    · omega
  · exact (hA'.bel.grown hg hA'.bel.size (fun b hb => (hA'.drow.lt b hb).1)).setCell (p := ⟨w0.heap.size + 1 + 1, 0, none⟩) (by show w0.heap.size ≤ w0.heap.size + 1 + 1; omega) _
theorem ChM.mv {w0 w wA w3 : World} {q : PlanP} {du mv : List Int} {de tl at_ : Int} {da ma : Option Addr} {dc mc : Nat} (h : ChM w0 q ⟨⟨du, mv, de, tl, at_⟩, da, dc, ma, mc⟩ w) (x : Int) {a' : Option Addr} {c' : Nat} (hA : Below w.heap.size w wA)
    (hown : w3.ownsRow w0.heap.size 3 1 (.slice a' (mv.length + 1) c') (mv.length + 1) (mv.flatMap intCells ++ intCells x)) (hg : wA.grownBy w3 (Value.slice ma mv.length mc).ownBlock)
    (hnew : ∀ k, (Value.slice a' (mv.length + 1) c').ownBlock = some k → (Value.slice ma mv.length mc).ownBlock = some k ∨ wA.heap.size ≤ k) :
    ChM w0 q ⟨⟨du, mv ++ [x], de, tl, at_⟩, da, dc, a', c'⟩ (w3.setCell ⟨w0.heap.size + 1 + 1, 1, none⟩ (.slice a' (mv.length + 1) c')) ∧ w3.heap[w0.heap.size + 1 + 1]? = some (scenObj ⟨⟨du, mv, de, tl, at_⟩, da, dc, ma, mc⟩) := by
  have hA' := h.below hA
  have far : ∀ {b : Nat} {cs : Array Value} {t : TypeId}, wA.heap[b]? = some (.cells cs t) → t ≠ 3 → w3.heap[b]? = some (.cells cs t) := fun {b cs t} hb ht => (hg.block _ (lt_of_block hb) (fun e => (hA'.ne hb ht).2 b e.symm rfl)).trans hb
  have hs3 := far hA'.sb (by decide)
  have hr : IntsO w3 w0.heap.size (.slice a' (mv ++ [x]).length c') (mv ++ [x]) := by rw [List.length_append]; exact RowO.snoc hown
  have hd3 : IntsO w3 w0.heap.size (.slice da du.length dc) du := own_ch hA'.drow (Ch.grown hg (S := fun k => (Value.slice ma mv.length mc).ownBlock = some k) (fun k hk => hk)) (fun k hk e => h.apart k hk e)
  have hc : Ch (fun k => k = w0.heap.size + 1 + 1) w3 (w3.setCell ⟨w0.heap.size + 1 + 1, 1, none⟩ (.slice a' (mv.length + 1) c')) := Ch.grown (grown_set (w := w3) _ 1 _) (fun k hk => by injection hk with hk; exact hk.symm)
  have hp3 := far hA'.pb (by decide); have hz3 := far hA'.rb (by decide)
  refine ⟨⟨(hc.block _ (lt_of_block hp3) (by omega)).trans hp3, (hc.block _ (lt_of_block hz3) (by omega)).trans hz3, ?_, own_ch hd3 hc (fun k hk e => ?_), own_ch hr hc (fun k hk e => ?_), fun b hb hb2 => ?_, ?_⟩, hs3⟩
  · rw [block_set hs3]; simp
  · obtain ⟨cs, hcs⟩ := own_block hd3 hk
    exact ne_of_kind hcs hs3 (by decide) e
  · obtain ⟨cs, hcs⟩ := own_block hr hk
    exact ne_of_kind hcs hs3 (by decide) e
  · have hl := (hA'.drow.lt b hb).2
    rw [List.length_append] at hb2
    rcases hnew b hb2 with h1 | h1
    · exact h.apart b hb h1
    · omega
  · exact (hA'.bel.grown hg hA'.bel.size (fun b hb => (hA'.mrow.lt b hb).1)).setCell (p := ⟨w0.heap.size + 1 + 1, 1, none⟩) (by show w0.heap.size ≤ w0.heap.size + 1 + 1; omega) _
end Go.Proofs.Ytngpkipblcihaaa
