/-
  Two plans side by side; one of them is changed in one place.
-/
import Derived.Test.YtngpkipblcihaaaMm
namespace Go.Proofs.Ytngpkipblcihaaa
open Go.RowKit

/-- One number of a row of records is changed. -/
theorem RowA.setField {α : Type} {f : α → List Value} {k : Nat} (hf : ∀ x, (f x).length = k) {w : World} {g c : Nat} {L : List α} (h : RowA f k w (some ⟨g, 0, none⟩) c L) {cs : Array Value} {t : TypeId} (hg : w.heap[g]? = some (.cells cs t)) {i o : Nat} (hi : i < L.length) (ho : o < k) {x : α} {u : Value}
    (hx : f x = (f L[i]).set o u) : RowA f k (w.setCell ⟨g, 0 + i * k + o, none⟩ u) (some ⟨g, 0, none⟩) c (L.set i x) := by
  refine ⟨by rw [List.length_set]; exact h.1, h.2.1, fun j hj => ⟨g, 0, rfl, ?_, fun m v hv => ?_⟩⟩
  · have := lt_of_block hg; simpa [World.setCell] using this
  · rw [List.length_set] at hj
    obtain ⟨g', o', e, _, hc⟩ := h.2.2 j hj
    injection e with e; injection e with e1 e2; subst e1; subst e2
    have hb := block_set hg (o := 0 + i * k + o) u
    by_cases hji : j = i ∧ m = o
    · obtain ⟨rfl, rfl⟩ := hji
      rw [List.getElem_set_self, hx] at hv
      have hm : m < (f L[j]).length := by rw [hf]; exact ho
      rw [List.getElem?_set_self hm] at hv
      injection hv with hv; subst hv
      refine box_cell hb _ _ ?_
      have hin : 0 + j * k + m < cs.size := by
        have := hc m (f L[j])[m] (List.getElem?_eq_getElem hm)
        simp only [World.cell?, hg] at this
        exact (Array.getElem?_eq_some_iff.1 this).1
      rw [Array.getElem?_setIfInBounds_self, if_pos hin]
    · have hold : (f L[j])[m]? = some v := by
        by_cases e : j = i
        · subst e
          rw [List.getElem_set_self, hx, List.getElem?_set_ne (by intro e; exact hji ⟨rfl, e.symm⟩)] at hv
          exact hv
        · rw [List.getElem_set_ne (by omega)] at hv; exact hv
      have hm : m < k := by rw [← hf L[j]]; exact (List.getElem?_eq_some_iff.1 hold).1
      have := hc m v hold
      simp only [World.cell?, hg] at this
      refine box_cell hb _ _ ?_
      rw [Array.getElem?_setIfInBounds_ne ?_]
      · exact this
      · intro e
        have h1 : i * k + o = j * k + m := by omega
        have h2 : j = i := by
          rcases Nat.lt_trichotomy j i with h3 | h3 | h3
          · exfalso
            have h4 : (j + 1) * k ≤ i * k := Nat.mul_le_mul_right k h3
            rw [Nat.succ_mul] at h4; omega
          · exact h3
          · exfalso
            have h4 : (i + 1) * k ≤ j * k := Nat.mul_le_mul_right k h3
            rw [Nat.succ_mul] at h4; omega
        subst h2
        exact hji ⟨rfl, by omega⟩
/-- Two plans, each in a box and with rows of its own. -/
structure TwoM (W : World) (B n8 n9 : Nat) (p q : PlanP) (w : World) : Prop where
  pb : w.heap[n8]? = some (planObj p)
  qb : w.heap[n9]? = some (planObj q)
  ps : StA w p.sa p.sc p.p.st
  pw : WnA w p.wa p.wc p.p.wn
  pl : (∀ x, p.sa = some x → x.block < B) ∧ (∀ x, p.wa = some x → x.block < B) ∧ n8 < B
  qs : StO w B (.slice q.sa q.p.st.length q.sc) q.p.st
  qw : WnO w B (.slice q.wa q.p.wn.length q.wc) q.p.wn
  hi : B ≤ n9
  bel : Below W.heap.size W w
  lo : W.heap.size ≤ B
/-- What the switch leaves. -/
structure Apart (W : World) (n8 n9 : Nat) (p q : PlanP) (w : World) : Prop where
  pb : w.heap[n8]? = some (planObj p)
  qb : w.heap[n9]? = some (planObj q)
  po : p.ok w
  qo : q.ok w
  bel : Below W.heap.size W w
  ne : p.p ≠ q.p
theorem TwoM.qne {W : World} {B n8 n9 : Nat} {p q : PlanP} {w : World} (h : TwoM W B n8 n9 p q w) : (∀ b, (Value.slice q.sa q.p.st.length q.sc).ownBlock = some b → b ≠ n9 ∧ B ≤ b) ∧ (∀ b, (Value.slice q.wa q.p.wn.length q.wc).ownBlock = some b → b ≠ n9 ∧ B ≤ b) := by
  refine ⟨fun b hb => ?_, fun b hb => ?_⟩
  · obtain ⟨cs, hcs⟩ := own_block h.qs hb
    exact ⟨ne_of_kind hcs h.qb (by decide), (h.qs.lt b hb).1⟩
  · obtain ⟨cs, hcs⟩ := own_block h.qw hb
    exact ⟨ne_of_kind hcs h.qb (by decide), (h.qw.lt b hb).1⟩
theorem TwoM.arg {W : World} {B n8 n9 : Nat} {p q : PlanP} {w : World} (h : TwoM W B n8 n9 p q w) : q.ok w := by
  obtain ⟨a, c, e, h1, -⟩ := h.qs.arg stage_len
  injection e with e1 _ e2
  obtain ⟨a', c', e', h1', -⟩ := h.qw.arg win_len
  injection e' with e3 _ e4
  exact ⟨by rw [e1, e2]; exact h1, by rw [e3, e4]; exact h1'⟩
theorem TwoM.step {W : World} {B n8 n9 : Nat} {p q : PlanP} {w w' : World} (h : TwoM W B n8 n9 p q w) (hb : Below w.heap.size w w') : TwoM W B n8 n9 p q w' :=
  ⟨box_below h.pb hb, box_below h.qb hb, h.ps.below hb, h.pw.below hb, h.pl, h.qs.below hb, h.qw.below hb, h.hi, below_step h.bel hb, h.lo⟩
/-- What is kept where only blocks from B on are written. -/
theorem TwoM.old {W : World} {B n8 n9 : Nat} {p q : PlanP} {w w' : World} (h : TwoM W B n8 n9 p q w) {S : Nat → Prop} (hc : Ch S w w') (hS : ∀ k, S k → B ≤ k) : w'.heap[n8]? = some (planObj p) ∧ p.ok w' ∧ Below W.heap.size W w' := by
  have hp := h.pl
  refine ⟨(hc.block _ (lt_of_block h.pb) (fun e => by have := hS _ e; omega)).trans h.pb, ⟨h.ps.ch hc (fun x hx e => by have := hS _ e; have := hp.1 x hx; omega), h.pw.ch hc (fun x hx e => by have := hS _ e; have := hp.2.1 x hx; omega)⟩, ?_⟩
  exact h.bel.trans (hc.below (by exact h.bel.size) (fun k hk => Nat.le_trans h.lo (hS k hk)))
theorem one_ch (w : World) (b o : Nat) (u : Value) : Ch (fun k => k = b) w (w.setCell ⟨b, o, none⟩ u) := Ch.grown (grown_set (w := w) b o u) (fun k hk => by injection hk with hk; exact hk.symm)
/-- A cell of the box is written. -/
theorem TwoM.box {W : World} {B n8 n9 : Nat} {p : PlanP} {en mi ma : Int} {st : List Pl.Stage} {wn : List Pl.Win} {sa wa : Option Addr} {sc wc : Nat} {w : World} (h : TwoM W B n8 n9 p ⟨⟨en, mi, ma, st, wn⟩, sa, sc, wa, wc⟩ w) {o : Nat} {u : Value} {en' mi' ma' : Int} {st' : List Pl.Stage}
    (hu : (#[.int .i64 en, .int .i64 mi, .int .i64 ma, .slice sa st.length sc, .slice wa wn.length wc] : Array Value).setIfInBounds o u = #[.int .i64 en', .int .i64 mi', .int .i64 ma', .slice sa st'.length sc, .slice wa wn.length wc])
    (hst : ∀ v, StA v sa sc st → StA v sa sc st') (hne : p.p ≠ ⟨en', mi', ma', st', wn⟩) : Apart W n8 n9 p ⟨⟨en', mi', ma', st', wn⟩, sa, sc, wa, wc⟩ (w.setCell ⟨n9, o, none⟩ u) := by
  have hc := one_ch w n9 o u
  obtain ⟨h1, h2, h3⟩ := h.old hc (fun k hk => by have := h.hi; omega)
  have hq := h.qne
  have hs := own_ch h.qs hc (fun k hk e => (hq.1 k hk).1 e)
  have hw := own_ch h.qw hc (fun k hk e => (hq.2 k hk).1 e)
  obtain ⟨a, c, e, k1, -⟩ := RowO.arg stage_len hs
  injection e with e1 _ e2
  obtain ⟨a', c', e', k2, -⟩ := RowO.arg win_len hw
  injection e' with e3 _ e4
  simp only at e1 e2 e3 e4
  subst e1; subst e2; subst e3; subst e4
  exact ⟨h1, by rw [block_set h.qb, hu], h2, ⟨hst _ k1, k2⟩, h3, hne⟩
/-- A number of a stage is written. -/
theorem TwoM.field {W : World} {B n8 n9 : Nat} {p : PlanP} {en mi ma : Int} {st : List Pl.Stage} {wn : List Pl.Win} {sa wa : Option Addr} {sc wc : Nat} {w : World} (h : TwoM W B n8 n9 p ⟨⟨en, mi, ma, st, wn⟩, sa, sc, wa, wc⟩ w) {i o : Nat} {u : Value} {x : Pl.Stage} (hi : i < st.length) (ho : o < 6)
    (hx : stageCells x = (stageCells st[i]).set o u) {g : Nat} (hg : sa = some ⟨g, 0, none⟩) (hne : p.p ≠ ⟨en, mi, ma, st.set i x, wn⟩) : Apart W n8 n9 p ⟨⟨en, mi, ma, st.set i x, wn⟩, sa, sc, wa, wc⟩ (w.setCell ⟨g, 0 + i * 6 + o, none⟩ u) := by
  have hq := h.qne
  have hgo : (Value.slice sa st.length sc).ownBlock = some g := by rw [hg]; rfl
  obtain ⟨hg9, hgB⟩ := hq.1 g hgo
  obtain ⟨cs, hcs⟩ := own_block h.qs hgo
  have hc := one_ch w g (0 + i * 6 + o) u
  obtain ⟨h1, h2, h3⟩ := h.old hc (fun k hk => by omega)
  have hw := own_ch h.qw hc (fun k hk e => by
    obtain ⟨ds, hds⟩ := own_block h.qw hk
    exact ne_of_kind hds hcs (by decide) e)
  obtain ⟨a', c', e', k2, -⟩ := RowO.arg win_len hw
  injection e' with e3 _ e4
  simp only at e3 e4
  subst e3; subst e4
  have hs := h.arg.st
  simp only at hs
  subst hg
  exact ⟨h1, by rw [hc.block _ (lt_of_block h.qb) (fun e => hg9 e.symm), h.qb]; simp [planObj], h2, ⟨hs.setField stage_len hcs hi ho hx, k2⟩, h3, hne⟩
/-- A window is appended. -/
theorem TwoM.win {W : World} {B n8 n9 : Nat} {p : PlanP} {en mi ma : Int} {st : List Pl.Stage} {wn : List Pl.Win} {sa wa : Option Addr} {sc wc : Nat} {w wA w3 : World} (h : TwoM W B n8 n9 p ⟨⟨en, mi, ma, st, wn⟩, sa, sc, wa, wc⟩ w) (x : Pl.Win) {a' : Option Addr} {c' : Nat} (hA : Below w.heap.size w wA)
    (hown : w3.ownsRow B 47 3 (.slice a' (wn.length + 1) c') (wn.length + 1) (wn.flatMap winCells ++ winCells x)) (hg : wA.grownBy w3 (Value.slice wa wn.length wc).ownBlock) (hne : p.p ≠ ⟨en, mi, ma, st, wn ++ [x]⟩) :
    Apart W n8 n9 p ⟨⟨en, mi, ma, st, wn ++ [x]⟩, sa, sc, a', c'⟩ (w3.setCell ⟨n9, 4, none⟩ (.slice a' (wn.length + 1) c')) ∧ w3.heap[n9]? = some (planObj ⟨⟨en, mi, ma, st, wn⟩, sa, sc, wa, wc⟩) := by
  have hq := h.qne
  have h1 : Ch (fun k => (Value.slice wa wn.length wc).ownBlock = some k) w w3 := (Ch.ofBelow hA).trans (Ch.grown hg (S := fun k => (Value.slice wa wn.length wc).ownBlock = some k) (fun k hk => hk)) (fun _ _ h => h)
  have hq9 : w3.heap[n9]? = some (planObj ⟨⟨en, mi, ma, st, wn⟩, sa, sc, wa, wc⟩) := (h1.block _ (lt_of_block h.qb) (fun e => (hq.2 _ e).1 rfl)).trans h.qb
  have hc : Ch (fun k => (Value.slice wa wn.length wc).ownBlock = some k ∨ k = n9) w (w3.setCell ⟨n9, 4, none⟩ (.slice a' (wn.length + 1) c')) := (h1.mono (S' := fun k => (Value.slice wa wn.length wc).ownBlock = some k ∨ k = n9) (fun _ h => .inl h)).trans ((one_ch w3 n9 4 _).mono (fun _ h => .inr h)) (fun _ _ h => h)
  obtain ⟨k1, k2, k3⟩ := h.old hc (fun k hk => by rcases hk with hk | hk; (exact (hq.2 k hk).2); (have := h.hi; omega))
  have hs := own_ch h.qs hc (fun k hk e => by
    rcases e with e | e
    · obtain ⟨cs, hcs⟩ := own_block h.qs hk
      obtain ⟨ds, hds⟩ := own_block h.qw e
      exact ne_of_kind hcs hds (by decide) rfl
    · exact (hq.1 k hk).1 e)
  have hr : WnO w3 B (.slice a' (wn ++ [x]).length c') (wn ++ [x]) := by rw [List.length_append]; exact RowO.snoc hown
  have hr2 := own_ch hr (one_ch w3 n9 4 (.slice a' (wn.length + 1) c')) (fun k hk e => by
    obtain ⟨cs, hcs⟩ := own_block hr hk
    exact ne_of_kind hcs hq9 (by decide) e)
  obtain ⟨b1, d1, e, m1, -⟩ := RowO.arg stage_len hs
  injection e with e1 _ e2
  obtain ⟨b2, d2, e', m2, -⟩ := RowO.arg win_len hr2
  injection e' with e3 _ e4
  simp only at e1 e2
  subst e1; subst e2; subst e3; subst e4
  exact ⟨⟨k1, by rw [block_set hq9]; simp, k2, ⟨m1, m2⟩, k3, hne⟩, hq9⟩
end Go.Proofs.Ytngpkipblcihaaa
