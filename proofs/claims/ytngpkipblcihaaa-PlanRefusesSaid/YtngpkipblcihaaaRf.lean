/-
  A plan and a scenario, one of which is changed so that the scenario is not possible any more.
-/
import Derived.Test.YtngpkipblcihaaaSc2
import Derived.Test.YtngpkipblcihaaaBo
namespace Go.Proofs.Ytngpkipblcihaaa
open Go.RowKit

theorem RowAt.ch {B : Nat} {t : TypeId} {w w' : World} {a : Option Addr} (h : RowAt B t w a) {b : Nat} {cs : Array Value} {u : TypeId} (hc : Ch (fun k => k = b) w w') (hb : w.heap[b]? = some (.cells cs u)) (hu : t ≠ u) : RowAt B t w' a := fun x hx => by
  obtain ⟨g, ds, e, h1, h2⟩ := h x hx
  exact ⟨g, ds, e, h1, (hc.block g (lt_of_block h2) (ne_of_kind h2 hb hu)).trans h2⟩
theorem PlM.ch {B n : Nat} {q : PlanP} {w w' : World} (h : PlM B n q w) {b : Nat} {cs : Array Value} {u : TypeId} (hc : Ch (fun k => k = b) w w') (hb : w.heap[b]? = some (.cells cs u)) (h1 : 28 ≠ u) (h2 : 45 ≠ u) (h3 : 47 ≠ u) : PlM B n q w' :=
  ⟨(hc.block _ (lt_of_block h.box) (ne_of_kind h.box hb h1)).trans h.box, ⟨h.ok.st.ch hc (fun x hx => h.sr.ne hb h2 x hx), h.ok.wn.ch hc (fun x hx => h.wr.ne hb h3 x hx)⟩, h.sr.ch hc hb h2, h.wr.ch hc hb h3, h.hi⟩
theorem ScM.ch {B n : Nat} {r : ScenP} {w w' : World} (h : ScM B n r w) {b : Nat} {cs : Array Value} {u : TypeId} (hc : Ch (fun k => k = b) w w') (hb : w.heap[b]? = some (.cells cs u)) (h1 : 32 ≠ u) (h2 : 3 ≠ u) : ScM B n r w' :=
  ⟨(hc.block _ (lt_of_block h.box) (ne_of_kind h.box hb h1)).trans h.box, ⟨h.ok.du.ch hc (fun x hx => h.dr.ne hb h2 x hx), h.ok.mv.ch hc (fun x hx => h.mr.ne hb h2 x hx)⟩, h.dr.ch hc hb h2, h.mr.ch hc hb h2, h.ap, h.hi⟩
theorem PlM.lower {B B' n : Nat} {q : PlanP} {w : World} (h : PlM B n q w) (hB : B' ≤ B) : PlM B' n q w := ⟨h.box, h.ok, h.sr.mono hB, h.wr.mono hB, Nat.le_trans hB h.hi⟩
theorem ScM.lower {B B' n : Nat} {r : ScenP} {w : World} (h : ScM B n r w) (hB : B' ≤ B) : ScM B' n r w := ⟨h.box, h.ok, h.dr.mono hB, h.mr.mono hB, h.ap, Nat.le_trans hB h.hi⟩
structure MemR (W : World) (np ns : Nat) (q : PlanP) (r : ScenP) (w : World) : Prop where
  p : PlM W.heap.size np q w
  s : ScM W.heap.size ns r w
  bel : Below W.heap.size W w
theorem MemR.below {W : World} {np ns : Nat} {q : PlanP} {r : ScenP} {w w' : World} (h : MemR W np ns q r w) (hb : Below w.heap.size w w') : MemR W np ns q r w' := ⟨h.p.below hb, h.s.below hb, below_step h.bel hb⟩
theorem MemR.scen {W : World} {np ns : Nat} {q : PlanP} {r r' : ScenP} {w w' : World} (h : MemR W np ns q r w) {b : Nat} {cs : Array Value} {u : TypeId} (k : ScM W.heap.size ns r' w' ∧ Ch (fun k => k = b) w w') (hb : w.heap[b]? = some (.cells cs u)) (hB : W.heap.size ≤ b) (h1 : 28 ≠ u) (h2 : 45 ≠ u) (h3 : 47 ≠ u) : MemR W np ns q r' w' :=
  ⟨h.p.ch k.2 hb h1 h2 h3, k.1, h.bel.trans (k.2.below h.bel.size (fun k hk => by omega))⟩
theorem MemR.plan {W : World} {np ns : Nat} {q q' : PlanP} {r : ScenP} {w w' : World} (h : MemR W np ns q r w) {b : Nat} {cs : Array Value} {u : TypeId} (k : PlM W.heap.size np q' w' ∧ Ch (fun k => k = b) w w') (hb : w.heap[b]? = some (.cells cs u)) (hB : W.heap.size ≤ b) (h1 : 32 ≠ u) (h2 : 3 ≠ u) : MemR W np ns q' r w' :=
  ⟨k.1, h.s.ch k.2 hb h1 h2, h.bel.trans (k.2.below h.bel.size (fun k hk => by omega))⟩
/-- What the switch leaves. -/
structure Refd (W : World) (np ns : Nat) (q : PlanP) (r : ScenP) (w : World) : Prop where
  m : MemR W np ns q r w
  no : Pl.possible q.p r.s = false
theorem Pl.no_iff {p : Pl.Plan} {s : Pl.Scen} (h : ¬ Pl.Poss p s) : Pl.possible p s = false := by
  cases e : Pl.possible p s
  · rfl
  · exact absurd (Pl.possible_iff.1 e) h
theorem getD_set {l : List Int} {i : Nat} {x : Int} (h : i < l.length) : (l.set i x).getD i 0 = x := by
  rw [List.getD_eq_getElem?_getD, List.getElem?_set_self h]; rfl
theorem Pl.no_dur {p : Pl.Plan} {s : Pl.Scen} {i : Nat} {x : Int} (hi : i < p.st.length) (hl : i < s.dur.length) (hx : x < p.st[i].mn ∨ p.st[i].mx < x) : Pl.possible p ⟨s.dur.set i x, s.mv, s.det, s.tool, s.at_⟩ = false :=
  Pl.no_iff fun h => by have := h.dur i hi; simp only [getD_set hl] at this; omega
theorem Pl.no_mv {p : Pl.Plan} {s : Pl.Scen} {i : Nat} {x : Int} (hi : i < p.st.length) (hl : i < s.mv.length) (hx : x < p.mmin ∨ p.mmax < x) : Pl.possible p ⟨s.dur, s.mv.set i x, s.det, s.tool, s.at_⟩ = false :=
  Pl.no_iff fun h => by have := h.mv i hi; simp only [getD_set hl] at this; omega
theorem Pl.no_det {p : Pl.Plan} {s : Pl.Scen} {x : Int} (hx : p.mmax < x) : Pl.possible p ⟨s.dur, s.mv, x, s.tool, s.at_⟩ = false :=
  Pl.no_iff fun h => by have := h.det; simp only at this; omega
theorem Pl.no_cut {p : Pl.Plan} {s : Pl.Scen} (h1 : s.mv.length = p.st.length) (h2 : 1 ≤ p.st.length) : Pl.possible p ⟨s.dur, s.mv.take (s.mv.length - 1), s.det, s.tool, s.at_⟩ = false :=
  Pl.no_iff fun h => by have := h.mlen; simp only [List.length_take] at this; omega
theorem Pl.no_at {p : Pl.Plan} {s : Pl.Scen} (h1 : s.tool = -1) : Pl.possible p ⟨s.dur, s.mv, s.det, s.tool, 1⟩ = false :=
  Pl.no_iff fun h => by have := h.fail; simp only at this; omega
theorem Pl.no_tool {p : Pl.Plan} {s : Pl.Scen} {i : Nat} (hi : i < p.st.length) : Pl.possible ⟨p.entry, p.mmin, p.mmax, p.st.set i ⟨p.st[i].mn, p.st[i].mx, p.st[i].m, ⟨p.st[i].m.tool, p.st[i].s.start⟩⟩, p.wn⟩ s = false :=
  Pl.no_iff fun h => by
    have h1 := h.v.st ⟨p.st[i].mn, p.st[i].mx, p.st[i].m, ⟨p.st[i].m.tool, p.st[i].s.start⟩⟩ (List.mem_of_getElem (i := i) (h := by simpa using hi) (List.getElem_set_self _))
    exact h1.ne rfl
theorem Pl.no_books {p : Pl.Plan} {o : Int} (h : o < 1 ∨ 1000000 < o) : Pl.bookings p o = [] := by
  unfold Pl.bookings
  rw [if_neg]
  simp only [Bool.and_eq_true, Pl.within_iff]
  omega
end Go.Proofs.Ytngpkipblcihaaa
