/-
  How the laws on Run begin: what Made and Chosen leave stands as Run's arguments.
  A plan and a scenario, each in a box, that a law changes in places; and those that it leaves alone.
-/
import Derived.Test.YtjdhjlhcdpekbaaQpBg
import Derived.Test.YtjdhjlhcdpekbaaQpBf
import Derived.Deep.DeepCutAuto
import Derived.Test.YtjdhjlhcdpekbaaQpBc
import Derived.Test.YtjdhjlhcdpekbaaQpBa
namespace Go.Proofs.Ytjdhjlhcdpekbaa.Pe
open Go.RowKit

theorem made_ok {w : World} {B : Nat} {p : Pl.Plan} {sa wa : Option Addr} {sc wc : Nat} (h1 : StO w B (.slice sa p.st.length sc) p.st) (h2 : WnO w B (.slice wa p.wn.length wc) p.wn) : PlanP.ok ⟨p, sa, sc, wa, wc⟩ w := by
  obtain ⟨a1, c1, e1, k1, -⟩ := RowO.arg stage_len h1
  injection e1 with e1 _ e2
  obtain ⟨a2, c2, e3, k2, -⟩ := RowO.arg win_len h2
  injection e3 with e3 _ e4
  subst e1; subst e2; subst e3; subst e4
  exact ⟨k1, k2⟩
theorem scen_ok {w : World} {B : Nat} {s : Pl.Scen} {da ma : Option Addr} {dc mc : Nat} (h1 : IntsO w B (.slice da s.dur.length dc) s.dur) (h2 : IntsO w B (.slice ma s.mv.length mc) s.mv) : ScenP.ok ⟨s, da, dc, ma, mc⟩ w := by
  obtain ⟨a1, c1, e1, k1, -⟩ := RowO.arg int_len h1
  injection e1 with e1 _ e2
  obtain ⟨a2, c2, e3, k2, -⟩ := RowO.arg int_len h2
  injection e3 with e3 _ e4
  subst e1; subst e2; subst e3; subst e4
  exact ⟨k1, k2⟩
end Go.Proofs.Ytjdhjlhcdpekbaa.Pe

namespace Go.Proofs.Ytjdhjlhcdpekbaa.Pe
open Go.RowKit

/-- Where the rows of a list lie that was made from B on. -/
def RowAt (B : Nat) (t : TypeId) (w : World) (a : Option Addr) : Prop := ∀ x, a = some x → ∃ g cs, x = ⟨g, 0, none⟩ ∧ B ≤ g ∧ w.heap[g]? = some (.cells cs t)
theorem RowO.at_ {α : Type} {f : α → List Value} {t : TypeId} {k : Nat} {w : World} {B : Nat} {a : Option Addr} {n c : Nat} {L : List α} (h : RowO f t k w B (.slice a n c) L) : RowAt B t w a := by
  intro x hx
  subst hx
  rcases h.2 with ⟨e, _⟩ | ⟨g, cap, cur, e, h2, h3, h4⟩
  · injection e with e _ _; cases e
  · injection e with e _ _; injection e with e; exact ⟨g, cur, e, h2, h3⟩
theorem RowAt.below {B : Nat} {t : TypeId} {w w' : World} {a : Option Addr} (h : RowAt B t w a) (hb : Below w.heap.size w w') : RowAt B t w' a := fun x hx => by
  obtain ⟨g, cs, e, h1, h2⟩ := h x hx
  exact ⟨g, cs, e, h1, box_below h2 hb⟩
theorem RowAt.mono {B B' : Nat} {t : TypeId} {w : World} {a : Option Addr} (h : RowAt B t w a) (hB : B' ≤ B) : RowAt B' t w a := fun x hx => by
  obtain ⟨g, cs, e, h1, h2⟩ := h x hx
  exact ⟨g, cs, e, by omega, h2⟩
theorem RowAt.lt {B : Nat} {t : TypeId} {w : World} {a : Option Addr} (h : RowAt B t w a) : ∀ x, a = some x → B ≤ x.block ∧ x.block < w.heap.size := fun x hx => by
  obtain ⟨g, cs, e, h1, h2⟩ := h x hx
  subst e; exact ⟨h1, lt_of_block h2⟩
/-- The write of a cell leaves a row's block a row's block. -/
theorem RowAt.set {B : Nat} {t : TypeId} {w : World} {a : Option Addr} (h : RowAt B t w a) (b o : Nat) (u : Value) : RowAt B t (w.setCell ⟨b, o, none⟩ u) a := fun x hx => by
  obtain ⟨g, cs, e, h1, h2⟩ := h x hx
  by_cases hg : g = b
  · subst hg; exact ⟨g, _, e, h1, block_set h2 u⟩
  · exact ⟨g, cs, e, h1, ((one_ch w b o u).block g (lt_of_block h2) hg).trans h2⟩
theorem RowAt.ne {B : Nat} {t : TypeId} {w : World} {a : Option Addr} (h : RowAt B t w a) {n : Nat} {cs : Array Value} {t' : TypeId} (hn : w.heap[n]? = some (.cells cs t')) (ht : t ≠ t') : ∀ x, a = some x → x.block ≠ n := fun x hx => by
  obtain ⟨g, ds, e, h1, h2⟩ := h x hx
  subst e; exact ne_of_kind h2 hn ht

/-- A plan in a box, all of it in blocks below B. -/
structure PlIs (B n : Nat) (q : PlanP) (w : World) : Prop where
  box : w.heap[n]? = some (planObj q)
  ok : q.ok w
  ls : ∀ x, q.sa = some x → x.block < B
  lw : ∀ x, q.wa = some x → x.block < B
  ln : n < B
theorem PlIs.below {B n : Nat} {q : PlanP} {w w' : World} (h : PlIs B n q w) (hb : Below w.heap.size w w') : PlIs B n q w' := ⟨box_below h.box hb, h.ok.below hb, h.ls, h.lw, h.ln⟩
theorem PlIs.ch {B n : Nat} {q : PlanP} {w w' : World} (h : PlIs B n q w) {S : Nat → Prop} (hc : Ch S w w') (hS : ∀ k, S k → B ≤ k) : PlIs B n q w' :=
  ⟨(hc.block _ (lt_of_block h.box) (fun e => by have := hS _ e; have := h.ln; omega)).trans h.box, ⟨h.ok.st.ch hc (fun x hx e => by have := hS _ e; have := h.ls x hx; omega), h.ok.wn.ch hc (fun x hx e => by have := hS _ e; have := h.lw x hx; omega)⟩, h.ls, h.lw, h.ln⟩
theorem PlIs.mono {B B' n : Nat} {q : PlanP} {w : World} (h : PlIs B n q w) (hB : B ≤ B') : PlIs B' n q w := ⟨h.box, h.ok, fun x hx => by have := h.ls x hx; omega, fun x hx => by have := h.lw x hx; omega, by have := h.ln; omega⟩
/-- A scenario in a box, all of it in blocks below B. -/
structure ScIs (B n : Nat) (r : ScenP) (w : World) : Prop where
  box : w.heap[n]? = some (scenObj r)
  ok : r.ok w
  ld : ∀ x, r.da = some x → x.block < B
  lm : ∀ x, r.ma = some x → x.block < B
  ln : n < B
theorem ScIs.below {B n : Nat} {r : ScenP} {w w' : World} (h : ScIs B n r w) (hb : Below w.heap.size w w') : ScIs B n r w' := ⟨box_below h.box hb, h.ok.below hb, h.ld, h.lm, h.ln⟩
theorem ScIs.ch {B n : Nat} {r : ScenP} {w w' : World} (h : ScIs B n r w) {S : Nat → Prop} (hc : Ch S w w') (hS : ∀ k, S k → B ≤ k) : ScIs B n r w' :=
  ⟨(hc.block _ (lt_of_block h.box) (fun e => by have := hS _ e; have := h.ln; omega)).trans h.box, ⟨h.ok.du.ch hc (fun x hx e => by have := hS _ e; have := h.ld x hx; omega), h.ok.mv.ch hc (fun x hx e => by have := hS _ e; have := h.lm x hx; omega)⟩, h.ld, h.lm, h.ln⟩
theorem ScIs.mono {B B' n : Nat} {r : ScenP} {w : World} (h : ScIs B n r w) (hB : B ≤ B') : ScIs B' n r w := ⟨h.box, h.ok, fun x hx => by have := h.ld x hx; omega, fun x hx => by have := h.lm x hx; omega, by have := h.ln; omega⟩

/-- A plan that the law has made from B on, in a box. -/
structure PlM (B n : Nat) (q : PlanP) (w : World) : Prop where
  box : w.heap[n]? = some (planObj q)
  ok : q.ok w
  sr : RowAt B 108 w q.sa
  wr : RowAt B 110 w q.wa
  hi : B ≤ n
theorem PlM.new {B : Nat} {q : PlanP} {w : World} (h1 : StO w B (.slice q.sa q.p.st.length q.sc) q.p.st) (h2 : WnO w B (.slice q.wa q.p.wn.length q.wc) q.p.wn) (hB : B ≤ w.heap.size) : PlM B w.heap.size q (w.alloc (planObj q)) := by
  have hb := below_new w (planObj q)
  exact ⟨heap_alloc_new _ _, (made_ok (p := q.p) h1 h2 : PlanP.ok ⟨q.p, q.sa, q.sc, q.wa, q.wc⟩ w).below hb, h1.at_.below hb, h2.at_.below hb, hB⟩
theorem PlM.below {B n : Nat} {q : PlanP} {w w' : World} (h : PlM B n q w) (hb : Below w.heap.size w w') : PlM B n q w' := ⟨box_below h.box hb, h.ok.below hb, h.sr.below hb, h.wr.below hb, h.hi⟩
theorem PlM.is {B n : Nat} {q : PlanP} {w : World} (h : PlM B n q w) : PlIs w.heap.size n q w := ⟨h.box, h.ok, fun x hx => (h.sr.lt x hx).2, fun x hx => (h.wr.lt x hx).2, lt_of_block h.box⟩
/-- A cell of the plan's box is written. -/
theorem PlM.num {B n : Nat} {en mi ma : Int} {st : List Pl.Stage} {wn : List Pl.Win} {sa wa : Option Addr} {sc wc : Nat} {w : World} (h : PlM B n ⟨⟨en, mi, ma, st, wn⟩, sa, sc, wa, wc⟩ w) {o : Nat} {u : Value} {en' mi' ma' : Int}
    (hu : (#[.int .i64 en, .int .i64 mi, .int .i64 ma, .slice sa st.length sc, .slice wa wn.length wc] : Array Value).setIfInBounds o u = #[.int .i64 en', .int .i64 mi', .int .i64 ma', .slice sa st.length sc, .slice wa wn.length wc]) :
    PlM B n ⟨⟨en', mi', ma', st, wn⟩, sa, sc, wa, wc⟩ (w.setCell ⟨n, o, none⟩ u) ∧ Ch (fun k => k = n) w (w.setCell ⟨n, o, none⟩ u) := by
  have hc := one_ch w n o u
  exact ⟨⟨by rw [block_set h.box, hu], ⟨h.ok.st.ch hc (fun x hx => h.sr.ne h.box (by decide) x hx), h.ok.wn.ch hc (fun x hx => h.wr.ne h.box (by decide) x hx)⟩, h.sr.set _ _ _, h.wr.set _ _ _, h.hi⟩, hc⟩
/-- A number of a stage is written. -/
theorem PlM.field {B n : Nat} {en mi ma : Int} {st : List Pl.Stage} {wn : List Pl.Win} {sa wa : Option Addr} {sc wc : Nat} {w : World} (h : PlM B n ⟨⟨en, mi, ma, st, wn⟩, sa, sc, wa, wc⟩ w) {i o : Nat} {u : Value} {x : Pl.Stage} (hi : i < st.length) (ho : o < 6)
    (hx : stageCells x = (stageCells st[i]).set o u) {g : Nat} (hg : sa = some ⟨g, 0, none⟩) :
    PlM B n ⟨⟨en, mi, ma, st.set i x, wn⟩, sa, sc, wa, wc⟩ (w.setCell ⟨g, 0 + i * 6 + o, none⟩ u) ∧ Ch (fun k => k = g) w (w.setCell ⟨g, 0 + i * 6 + o, none⟩ u) := by
  have hc := one_ch w g (0 + i * 6 + o) u
  obtain ⟨g', cs, e, hB, hcs⟩ := h.sr _ hg
  injection e with e _; subst e
  have hs := h.ok.st
  simp only at hs
  have hne : n ≠ g := ne_of_kind h.box hcs (by decide)
  subst hg
  exact ⟨⟨by rw [hc.block _ (lt_of_block h.box) hne, h.box]; simp [planObj], ⟨hs.setField stage_len hcs hi ho hx, h.ok.wn.ch hc (fun x hx => h.wr.ne hcs (by decide) x hx)⟩, h.sr.set _ _ _, h.wr.set _ _ _, h.hi⟩, hc⟩

/-- A scenario that the law has made from B on, in a box. -/
structure ScM (B n : Nat) (r : ScenP) (w : World) : Prop where
  box : w.heap[n]? = some (scenObj r)
  ok : r.ok w
  dr : RowAt B 3 w r.da
  mr : RowAt B 3 w r.ma
  ap : ∀ x y, r.da = some x → r.ma = some y → x.block ≠ y.block
  hi : B ≤ n
theorem ScM.new {B : Nat} {r : ScenP} {w : World} (h1 : IntsO w B (.slice r.da r.s.dur.length r.dc) r.s.dur) (h2 : IntsO w B (.slice r.ma r.s.mv.length r.mc) r.s.mv)
    (h3 : ∀ b, (Value.slice r.da r.s.dur.length r.dc).ownBlock = some b → (Value.slice r.ma r.s.mv.length r.mc).ownBlock ≠ some b) (hB : B ≤ w.heap.size) : ScM B w.heap.size r (w.alloc (scenObj r)) := by
  have hb := below_new w (scenObj r)
  refine ⟨heap_alloc_new _ _, (scen_ok (s := r.s) h1 h2 : ScenP.ok ⟨r.s, r.da, r.dc, r.ma, r.mc⟩ w).below hb, h1.at_.below hb, h2.at_.below hb, fun x y hx hy e => ?_, hB⟩
  refine h3 x.block ?_ ?_
  · rw [hx]; rfl
  · rw [hy, e]; rfl
theorem ScM.below {B n : Nat} {r : ScenP} {w w' : World} (h : ScM B n r w) (hb : Below w.heap.size w w') : ScM B n r w' := ⟨box_below h.box hb, h.ok.below hb, h.dr.below hb, h.mr.below hb, h.ap, h.hi⟩
theorem ScM.is {B n : Nat} {r : ScenP} {w : World} (h : ScM B n r w) : ScIs w.heap.size n r w := ⟨h.box, h.ok, fun x hx => (h.dr.lt x hx).2, fun x hx => (h.mr.lt x hx).2, lt_of_block h.box⟩
/-- A number of the scenario is written. -/
theorem ScM.num {B n : Nat} {du mv : List Int} {de tl at_ : Int} {da ma : Option Addr} {dc mc : Nat} {w : World} (h : ScM B n ⟨⟨du, mv, de, tl, at_⟩, da, dc, ma, mc⟩ w) {de' tl' at' : Int} {o : Nat} {u : Value}
    (hu : (#[.slice da du.length dc, .slice ma mv.length mc, .int .i64 de, .int .i64 tl, .int .i64 at_] : Array Value).setIfInBounds o u = #[.slice da du.length dc, .slice ma mv.length mc, .int .i64 de', .int .i64 tl', .int .i64 at']) :
    ScM B n ⟨⟨du, mv, de', tl', at'⟩, da, dc, ma, mc⟩ (w.setCell ⟨n, o, none⟩ u) ∧ Ch (fun k => k = n) w (w.setCell ⟨n, o, none⟩ u) := by
  have hc := one_ch w n o u
  exact ⟨⟨by rw [block_set h.box, hu], ⟨h.ok.du.ch hc (fun x hx => h.dr.ne h.box (by decide) x hx), h.ok.mv.ch hc (fun x hx => h.mr.ne h.box (by decide) x hx)⟩, h.dr.set _ _ _, h.mr.set _ _ _, h.ap, h.hi⟩, hc⟩
/-- The list of moves becomes shorter. -/
theorem ScM.cut {B n : Nat} {du mv : List Int} {de tl at_ : Int} {da ma : Option Addr} {dc mc : Nat} {w : World} (h : ScM B n ⟨⟨du, mv, de, tl, at_⟩, da, dc, ma, mc⟩ w) (k : Nat) :
    ScM B n ⟨⟨du, mv.take k, de, tl, at_⟩, da, dc, ma, mc⟩ (w.setCell ⟨n, 1, none⟩ (.slice ma (mv.take k).length mc)) ∧ Ch (fun k => k = n) w (w.setCell ⟨n, 1, none⟩ (.slice ma (mv.take k).length mc)) := by
  have hc := one_ch w n 1 (.slice ma (mv.take k).length mc)
  exact ⟨⟨by rw [block_set h.box]; rfl, ⟨h.ok.du.ch hc (fun x hx => h.dr.ne h.box (by decide) x hx), (h.ok.mv.take k).ch hc (fun x hx => h.mr.ne h.box (by decide) x hx)⟩, h.dr.set _ _ _, h.mr.set _ _ _, h.ap, h.hi⟩, hc⟩
theorem int_set (x y : Int) : intCells x = (intCells y).set 0 (.int .i64 x) := rfl
/-- A move is written. -/
theorem ScM.move {B n : Nat} {du mv : List Int} {de tl at_ : Int} {da ma : Option Addr} {dc mc : Nat} {w : World} (h : ScM B n ⟨⟨du, mv, de, tl, at_⟩, da, dc, ma, mc⟩ w) {i : Nat} (hi : i < mv.length) (x : Int) {g : Nat} (hg : ma = some ⟨g, 0, none⟩) :
    ScM B n ⟨⟨du, mv.set i x, de, tl, at_⟩, da, dc, ma, mc⟩ (w.setCell ⟨g, 0 + i * 1 + 0, none⟩ (.int .i64 x)) ∧ Ch (fun k => k = g) w (w.setCell ⟨g, 0 + i * 1 + 0, none⟩ (.int .i64 x)) := by
  have hc := one_ch w g (0 + i * 1 + 0) (.int .i64 x)
  obtain ⟨g', cs, e, hB, hcs⟩ := h.mr _ hg
  injection e with e _; subst e
  have hs := h.ok.mv
  simp only at hs
  have hne : n ≠ g := ne_of_kind h.box hcs (by decide)
  subst hg
  exact ⟨⟨by rw [hc.block _ (lt_of_block h.box) hne, h.box]; simp [scenObj], ⟨h.ok.du.ch hc (fun y hy e => h.ap y _ hy rfl e), hs.setField int_len hcs hi (by decide) (int_set _ _)⟩, h.dr.set _ _ _, h.mr.set _ _ _, h.ap, h.hi⟩, hc⟩
/-- A duration is written. -/
theorem ScM.dura {B n : Nat} {du mv : List Int} {de tl at_ : Int} {da ma : Option Addr} {dc mc : Nat} {w : World} (h : ScM B n ⟨⟨du, mv, de, tl, at_⟩, da, dc, ma, mc⟩ w) {i : Nat} (hi : i < du.length) (x : Int) {g : Nat} (hg : da = some ⟨g, 0, none⟩) :
    ScM B n ⟨⟨du.set i x, mv, de, tl, at_⟩, da, dc, ma, mc⟩ (w.setCell ⟨g, 0 + i * 1 + 0, none⟩ (.int .i64 x)) ∧ Ch (fun k => k = g) w (w.setCell ⟨g, 0 + i * 1 + 0, none⟩ (.int .i64 x)) := by
  have hc := one_ch w g (0 + i * 1 + 0) (.int .i64 x)
  obtain ⟨g', cs, e, hB, hcs⟩ := h.dr _ hg
  injection e with e _; subst e
  have hs := h.ok.du
  simp only at hs
  have hne : n ≠ g := ne_of_kind h.box hcs (by decide)
  subst hg
  exact ⟨⟨by rw [hc.block _ (lt_of_block h.box) hne, h.box]; simp [scenObj], ⟨hs.setField int_len hcs hi (by decide) (int_set _ _), h.ok.mv.ch hc (fun y hy e => h.ap _ y rfl hy e.symm)⟩, h.dr.set _ _ _, h.mr.set _ _ _, h.ap, h.hi⟩, hc⟩
end Go.Proofs.Ytjdhjlhcdpekbaa.Pe
