/-
  A plan that is later by some minutes, on paper and in memory.
-/
import Derived.Test.YtngpkipblcihaaaSc2
namespace Go.Proofs.Ytngpkipblcihaaa.Pl

/-- The first k stages are later. -/
def shTo (b : Int) : List Stage → Nat → List Stage
  | [], _ => []
  | x :: l, 0 => x :: l
  | x :: l, k + 1 => shStage b x :: shTo b l k
theorem shTo_len (b : Int) : ∀ (l : List Stage) (k : Nat), (shTo b l k).length = l.length
  | [], _ => rfl
  | _ :: _, 0 => rfl
  | _ :: l, k + 1 => by simp [shTo, shTo_len b l k]
theorem shTo_zero (b : Int) (l : List Stage) : shTo b l 0 = l := by cases l <;> rfl
theorem shTo_at (b : Int) : ∀ (l : List Stage) (k : Nat) (h : k < l.length), (shTo b l k)[k]'(by rw [shTo_len]; exact h) = l[k]
  | [], _, h => absurd h (Nat.not_lt_zero _)
  | _ :: _, 0, _ => rfl
  | _ :: l, k + 1, h => by
    have := shTo_at b l k (by simpa using h)
    simpa [shTo] using this
theorem shTo_set (b : Int) : ∀ (l : List Stage) (k : Nat) (h : k < l.length), (shTo b l k).set k (shStage b l[k]) = shTo b l (k + 1)
  | [], _, h => absurd h (Nat.not_lt_zero _)
  | x :: l, 0, _ => by simp [shTo, shTo_zero]
  | x :: l, k + 1, h => by
    have := shTo_set b l k (by simpa using h)
    simp only [shTo, List.set_cons_succ, List.getElem_cons_succ]
    rw [this]
theorem shTo_all (b : Int) : ∀ (l : List Stage), shTo b l l.length = l.map (shStage b)
  | [] => rfl
  | x :: l => by simp [shTo, shTo_all b l]
theorem fine_entry (X : List (List Int)) : (made X).entry ≤ 100 := (mkMax_bd X).2.2.2.2
theorem sh_valid {p : Plan} (h : Fine p) (he : p.entry ≤ 100) {b : Int} (hb : 0 ≤ b ∧ b < 10000) : Valid (shPlan b p) := by
  have hv := h.v
  refine ⟨?_, hv.mmin, hv.mmax, ?_, fun x hx => ?_, hv.wlen, fun w hw => ?_, ?_⟩
  · have := hv.entry; show 0 ≤ p.entry + b ∧ p.entry + b ≤ _; omega
  · show 1 ≤ (p.st.map _).length ∧ (p.st.map _).length ≤ 8; rw [List.length_map]; exact hv.len
  · obtain ⟨y, hy, rfl⟩ := List.mem_map.1 hx
    have s := h.s y hy
    have s1 := s.mn; have s2 := s.ne; have s3 := s.mt; have s4 := s.st; have s5 := s.ms; have s6 := s.ss
    exact ⟨s1.1, s1.2.1, by show y.mx ≤ _; omega, s2, by show 0 ≤ y.m.tool ∧ y.m.tool ≤ _; omega, by show 0 ≤ y.m.start + b ∧ y.m.start + b ≤ _ - y.mx; omega, by show 0 ≤ y.s.tool ∧ y.s.tool ≤ _; omega, by show 0 ≤ y.s.start + b ∧ y.s.start + b ≤ _ - y.mx; omega⟩
  · show OkWin (p.st.map _).length w; rw [List.length_map]; exact hv.wn w hw
  · show okWinsFrom (p.st.map _).length none p.wn = true; rw [List.length_map]; exact hv.asc
theorem chAt_bd {p : Plan} (h : Fine p) (Y : List (List Int)) (tool at_ : Int) : (chosen p Y tool at_).at_ ≤ 2000 := by
  show chAt p tool at_ ≤ 2000
  unfold chAt
  have hl := h.v.len
  have h1 := h.at (chI_lt h tool)
  have h2 := h.at (show p.st.length - 1 < p.st.length by omega)
  have h3 := h1.mt; have h4 := h1.ms; have h5 := h2.ss
  have q1 := pickZ_bd (c := at_.tdiv 3) (n := 50) (by omega)
  have q2 := pickZ_bd (c := at_) (n := (stAt p (p.st.length - 1)).s.start + 50) (by omega)
  repeat' split
  all_goals omega
theorem sh_poss {p : Plan} {s : Scen} {b a : Int} (hs : Poss p s) (hv : Valid (shPlan b p)) (ha : (s.tool = -1 ∧ a = 0) ∨ (0 ≤ s.tool ∧ 0 ≤ a ∧ a ≤ 1000000)) : Poss (shPlan b p) ⟨s.dur, s.mv, s.det, s.tool, a⟩ := by
  have el : (shPlan b p).st.length = p.st.length := by show (p.st.map _).length = _; rw [List.length_map]
  refine ⟨hv, hs.dlen.trans el.symm, fun i hi => ?_, hs.mlen.trans el.symm, fun i hi => hs.mv i (by omega), hs.det, ?_⟩
  · have hi' : i < p.st.length := by omega
    have e : (shPlan b p).st[i] = shStage b p.st[i] := List.getElem_map _
    rw [e]; exact hs.dur i hi'
  · rcases ha with h | h
    · exact .inl h
    · rcases hs.fail with h2 | h2
      · exact absurd h.1 (by rw [h2.1]; decide)
      · exact .inr ⟨h2.1, h.2⟩
theorem sh_run {p : Plan} {s : Scen} {b a : Int} (hs : Poss p s) (ha : s.tool = -1 ∨ a = s.at_ + b) : run (shPlan b p) ⟨s.dur, s.mv, s.det, s.tool, a⟩ = ⟨(run p s).V.map (shVisit b), (run p s).kind, (run p s).num⟩ :=
  run_sh (s := s) (s' := ⟨s.dur, s.mv, s.det, s.tool, a⟩) hs.v.wn rfl ha rfl rfl rfl p.st 0 p.entry [] rfl (fun x hx => (hs.v.st x hx).mt.1)
end Go.Proofs.Ytngpkipblcihaaa.Pl
namespace Go.Proofs.Ytngpkipblcihaaa
open Go.RowKit
/-- Two plans, the second of which is changed. -/
structure Mem1 (W : World) (B np nq : Nat) (p q : PlanP) (w : World) : Prop where
  p : PlIs B np p w
  q : PlM B nq q w
  bel : Below W.heap.size W w
  lo : W.heap.size ≤ B
theorem Mem1.below {W : World} {B np nq : Nat} {p q : PlanP} {w w' : World} (h : Mem1 W B np nq p q w) (hb : Below w.heap.size w w') : Mem1 W B np nq p q w' := ⟨h.p.below hb, h.q.below hb, below_step h.bel hb, h.lo⟩
theorem Mem1.upd {W : World} {B np nq : Nat} {p q q' : PlanP} {w w' : World} (h : Mem1 W B np nq p q w) {S : Nat → Prop} (k : PlM B nq q' w' ∧ Ch S w w') (hS : ∀ k, S k → B ≤ k) : Mem1 W B np nq p q' w' :=
  ⟨h.p.ch k.2 hS, k.1, h.bel.trans (k.2.below h.bel.size (fun k hk => Nat.le_trans h.lo (hS k hk))), h.lo⟩
theorem Mem1.num {W : World} {B np nq : Nat} {p : PlanP} {en mi ma : Int} {st : List Pl.Stage} {wn : List Pl.Win} {sa wa : Option Addr} {sc wc : Nat} {w : World} (h : Mem1 W B np nq p ⟨⟨en, mi, ma, st, wn⟩, sa, sc, wa, wc⟩ w) {o : Nat} {u : Value} {en' mi' ma' : Int}
    (hu : (#[.int .i64 en, .int .i64 mi, .int .i64 ma, .slice sa st.length sc, .slice wa wn.length wc] : Array Value).setIfInBounds o u = #[.int .i64 en', .int .i64 mi', .int .i64 ma', .slice sa st.length sc, .slice wa wn.length wc]) :
    Mem1 W B np nq p ⟨⟨en', mi', ma', st, wn⟩, sa, sc, wa, wc⟩ (w.setCell ⟨nq, o, none⟩ u) := h.upd (h.q.num hu) (fun k hk => by have := h.q.hi; omega)
theorem Mem1.field {W : World} {B np nq : Nat} {p : PlanP} {en mi ma : Int} {st : List Pl.Stage} {wn : List Pl.Win} {sa wa : Option Addr} {sc wc : Nat} {w : World} (h : Mem1 W B np nq p ⟨⟨en, mi, ma, st, wn⟩, sa, sc, wa, wc⟩ w) {i o : Nat} {u : Value} {x : Pl.Stage} (hi : i < st.length) (ho : o < 6)
    (hx : stageCells x = (stageCells st[i]).set o u) {g : Nat} (hg : sa = some ⟨g, 0, none⟩) : Mem1 W B np nq p ⟨⟨en, mi, ma, st.set i x, wn⟩, sa, sc, wa, wc⟩ (w.setCell ⟨g, 0 + i * 6 + o, none⟩ u) :=
  h.upd (h.q.field hi ho hx hg) (fun k hk => by have := h.q.sr.lt _ hg; simp only at this; omega)
/-- Two plans and two scenarios, the last of which is changed. -/
structure Mem3 (W : World) (B np nq ns nt : Nat) (p q : PlanP) (r t : ScenP) (w : World) : Prop where
  m : Mem2 W B np ns nt p r t w
  q : PlIs B nq q w
theorem Mem3.below {W : World} {B np nq ns nt : Nat} {p q : PlanP} {r t : ScenP} {w w' : World} (h : Mem3 W B np nq ns nt p q r t w) (hb : Below w.heap.size w w') : Mem3 W B np nq ns nt p q r t w' := ⟨h.m.below hb, h.q.below hb⟩
theorem Mem3.num {W : World} {B np nq ns nt : Nat} {p q : PlanP} {r : ScenP} {du mv : List Int} {de tl at_ : Int} {da ma : Option Addr} {dc mc : Nat} {w : World} (h : Mem3 W B np nq ns nt p q r ⟨⟨du, mv, de, tl, at_⟩, da, dc, ma, mc⟩ w) {de' tl' at' : Int} {o : Nat} {u : Value}
    (hu : (#[.slice da du.length dc, .slice ma mv.length mc, .int .i64 de, .int .i64 tl, .int .i64 at_] : Array Value).setIfInBounds o u = #[.slice da du.length dc, .slice ma mv.length mc, .int .i64 de', .int .i64 tl', .int .i64 at']) :
    Mem3 W B np nq ns nt p q r ⟨⟨du, mv, de', tl', at'⟩, da, dc, ma, mc⟩ (w.setCell ⟨nt, o, none⟩ u) := ⟨h.m.num hu, h.q.ch (h.m.t.num hu).2 (fun k hk => by have := h.m.t.hi; omega)⟩
end Go.Proofs.Ytngpkipblcihaaa
