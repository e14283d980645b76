/-
  A plan, a scenario, and another one that is changed; how a scenario's failure is changed on paper, and its moves.
-/
import Derived.Test.YtngpkipblcihaaaSc
import Derived.Test.YtngpkipblcihaaaEq
namespace Go.Proofs.Ytngpkipblcihaaa
open Go.RowKit

structure Mem2 (W : World) (B np ns nt : Nat) (q : PlanP) (r t : ScenP) (w : World) : Prop where
  p : PlIs B np q w
  s : ScIs B ns r w
  t : ScM B nt t w
  bel : Below W.heap.size W w
  lo : W.heap.size ≤ B
theorem Mem2.below {W : World} {B np ns nt : Nat} {q : PlanP} {r t : ScenP} {w w' : World} (h : Mem2 W B np ns nt q r t w) (hb : Below w.heap.size w w') : Mem2 W B np ns nt q r t w' :=
  ⟨h.p.below hb, h.s.below hb, h.t.below hb, below_step h.bel hb, h.lo⟩
theorem Mem2.upd {W : World} {B np ns nt : Nat} {q : PlanP} {r t t' : ScenP} {w w' : World} (h : Mem2 W B np ns nt q r t w) {S : Nat → Prop} (k : ScM B nt t' w' ∧ Ch S w w') (hS : ∀ k, S k → B ≤ k) : Mem2 W B np ns nt q r t' w' :=
  ⟨h.p.ch k.2 hS, h.s.ch k.2 hS, k.1, h.bel.trans (k.2.below h.bel.size (fun k hk => Nat.le_trans h.lo (hS k hk))), h.lo⟩
/-- A number of the scenario in the box. -/
theorem Mem2.num {W : World} {B np ns nt : Nat} {q : PlanP} {r : ScenP} {du mv : List Int} {de tl at_ : Int} {da ma : Option Addr} {dc mc : Nat} {w : World} (h : Mem2 W B np ns nt q r ⟨⟨du, mv, de, tl, at_⟩, da, dc, ma, mc⟩ w) {de' tl' at' : Int} {o : Nat} {u : Value}
    (hu : (#[.slice da du.length dc, .slice ma mv.length mc, .int .i64 de, .int .i64 tl, .int .i64 at_] : Array Value).setIfInBounds o u = #[.slice da du.length dc, .slice ma mv.length mc, .int .i64 de', .int .i64 tl', .int .i64 at']) :
    Mem2 W B np ns nt q r ⟨⟨du, mv, de', tl', at'⟩, da, dc, ma, mc⟩ (w.setCell ⟨nt, o, none⟩ u) := h.upd (h.t.num hu) (fun k hk => by have := h.t.hi; omega)
theorem Mem2.move {W : World} {B np ns nt : Nat} {q : PlanP} {r : ScenP} {du mv : List Int} {de tl at_ : Int} {da ma : Option Addr} {dc mc : Nat} {w : World} (h : Mem2 W B np ns nt q r ⟨⟨du, mv, de, tl, at_⟩, da, dc, ma, mc⟩ w) {i : Nat} (hi : i < mv.length) (x : Int) {g : Nat} (hg : ma = some ⟨g, 0, none⟩) :
    Mem2 W B np ns nt q r ⟨⟨du, mv.set i x, de, tl, at_⟩, da, dc, ma, mc⟩ (w.setCell ⟨g, 0 + i * 1 + 0, none⟩ (.int .i64 x)) := h.upd (h.t.move hi x hg) (fun k hk => by have := h.t.mr.lt _ hg; simp only at this; omega)
/-- The beginning: a plan in its box, two scenarios from Chosen. -/
theorem Mem2.new {W w3 w4 w5 w6 : World} {n8 : Nat} {q : PlanP} {r t : ScenP} (hp : PlIs w3.heap.size n8 q w3) (hb3 : Below W.heap.size W w3)
    (d1 : IntsO w4 w3.heap.size (.slice r.da r.s.dur.length r.dc) r.s.dur) (d2 : IntsO w4 w3.heap.size (.slice r.ma r.s.mv.length r.mc) r.s.mv) (d3 : ∀ b, (Value.slice r.da r.s.dur.length r.dc).ownBlock = some b → (Value.slice r.ma r.s.mv.length r.mc).ownBlock ≠ some b) (g4 : Below w3.heap.size w3 w4)
    (h5 : w5 = w4.alloc (scenObj r))
    (e1 : IntsO w6 w5.heap.size (.slice t.da t.s.dur.length t.dc) t.s.dur) (e2 : IntsO w6 w5.heap.size (.slice t.ma t.s.mv.length t.mc) t.s.mv) (e3 : ∀ b, (Value.slice t.da t.s.dur.length t.dc).ownBlock = some b → (Value.slice t.ma t.s.mv.length t.mc).ownBlock ≠ some b) (g6 : Below w5.heap.size w5 w6) :
    Mem2 W w5.heap.size n8 w4.heap.size w6.heap.size q r t (w6.alloc (scenObj t)) := by
  have hb4 : Below w4.heap.size w4 w5 := by rw [h5]; exact below_new _ _
  have hs : ScM w3.heap.size w4.heap.size r w5 := by rw [h5]; exact ScM.new d1 d2 d3 g4.size
  have hb6 := below_step g6 (below_new w6 (scenObj t))
  have hb5 := below_step g4 hb4
  exact ⟨((hp.below hb5).mono hb5.size).below hb6, hs.is.below hb6, ScM.new e1 e2 e3 g6.size, below_step (below_step hb3 hb5) hb6, Nat.le_trans hb3.size hb5.size⟩

/-! ### on paper -/
/-- A failure that no main slot meets makes no difference. -/
theorem Pl.run_fail {p : Pl.Plan} {s : Pl.Scen} {tl at_ : Int} (hv : Pl.Valid p) (h1 : s.tool = -1) (h2 : ∀ i (h : i < p.st.length), p.st[i].m.tool = tl → p.st[i].m.start + s.dur.getD i 0 ≤ at_) : Pl.run p ⟨s.dur, s.mv, s.det, tl, at_⟩ = Pl.run p s := by
  refine Pl.run_same (s := s) (s' := ⟨s.dur, s.mv, s.det, tl, at_⟩) rfl p.st 0 p.entry [] (fun k hk t => ?_)
  rw [Nat.zero_add]
  have h3 := (hv.st p.st[k] (List.getElem_mem hk)).mt
  have h4 := h2 k hk
  unfold Pl.slot Pl.loses
  have e1 : (decide (s.tool = p.st[k].m.tool) && decide (s.at_ < p.st[k].m.start + s.dur.getD k 0)) = false := by rw [decide_eq_false (by omega)]; rfl
  have e2 : (decide (tl = p.st[k].m.tool) && decide (at_ < p.st[k].m.start + s.dur.getD k 0)) = false := by
    by_cases e : tl = p.st[k].m.tool
    · rw [decide_eq_false (p := at_ < p.st[k].m.start + s.dur.getD k 0) (by have := h4 e.symm; omega), Bool.and_false]
    · rw [decide_eq_false e]; rfl
  simp only [e1, e2]
  rfl
theorem Pl.fail_poss {p : Pl.Plan} {s : Pl.Scen} {tl at_ : Int} (h : Pl.Poss p s) (h1 : 0 ≤ tl ∧ tl ≤ 59) (h2 : 0 ≤ at_ ∧ at_ ≤ 1000000) : Pl.Poss p ⟨s.dur, s.mv, s.det, tl, at_⟩ := ⟨h.v, h.dlen, h.dur, h.mlen, h.mv, h.det, .inr ⟨h1, h2⟩⟩
/-- Moves and a detour that are shorter. -/
theorem Pl.short_poss {p : Pl.Plan} {s : Pl.Scen} {mv : List Int} {de : Int} (h : Pl.Poss p s) (h1 : mv.length = s.mv.length) (h2 : ∀ i, i < p.st.length → p.mmin ≤ mv.getD i 0 ∧ mv.getD i 0 ≤ s.mv.getD i 0) (h3 : p.mmin ≤ de ∧ de ≤ s.det) : Pl.Poss p ⟨s.dur, mv, de, s.tool, s.at_⟩ :=
  ⟨h.v, h.dlen, h.dur, h1.trans h.mlen, fun i hi => by have := h2 i hi; have := h.mv i hi; show _ ≤ mv.getD i 0 ∧ mv.getD i 0 ≤ _; omega, by have := h.det; show _ ≤ de ∧ de ≤ _; omega, h.fail⟩
theorem Pl.run_short {p : Pl.Plan} {s : Pl.Scen} {mv : List Int} {de : Int} (h1 : ∀ i, i < p.st.length → mv.getD i 0 ≤ s.mv.getD i 0) (h3 : de ≤ s.det) (hk : (Pl.run p s).kind = 0) : Pl.run p ⟨s.dur, mv, de, s.tool, s.at_⟩ = Pl.run p s :=
  Pl.run_mono (s := s) (s' := ⟨s.dur, mv, de, s.tool, s.at_⟩) rfl rfl rfl h3 p.st 0 p.entry [] (fun k hk => h1 k (by omega)) hk
end Go.Proofs.Ytngpkipblcihaaa
