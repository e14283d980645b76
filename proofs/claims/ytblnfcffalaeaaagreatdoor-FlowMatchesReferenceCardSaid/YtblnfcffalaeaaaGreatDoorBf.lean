/-
  What bent holds once it has copied a flow: one number is changed, or one row is appended to.
-/
import Derived.Test.YtblnfcffalaeaaaGreatDoorBt
namespace Go.Proofs.YtblnfcffalaeaaaGreatDoor
open Go.RowKit Go.Shelf

def lists2 (p : StepP) : List Value := [.slice p.ta p.s.tools.length p.tc, .slice p.na p.s.next.length p.nc]
/-- No two lists of these steps lie in one block. -/
def Apart (P : List StepP) : Prop := (P.flatMap lists2).Pairwise fun x y => ∀ k, x.ownBlock = some k → y.ownBlock ≠ some k
theorem apart_nil : Apart [] := List.Pairwise.nil
theorem Apart.snoc {P : List StepP} (h : Apart P) {p : StepP} {m n : Nat} (h1 : ∀ x ∈ P.flatMap lists2, ∀ k, x.ownBlock = some k → k < m)
    (h2 : ∀ k, (Value.slice p.ta p.s.tools.length p.tc).ownBlock = some k → m ≤ k ∧ k < n) (h3 : ∀ k, (Value.slice p.na p.s.next.length p.nc).ownBlock = some k → n ≤ k) (hm : m ≤ n) : Apart (P ++ [p]) := by
  unfold Apart
  rw [List.flatMap_append, List.pairwise_append]
  refine ⟨h, ?_, fun x hx y hy k hk e => ?_⟩
  · simp only [List.flatMap_cons, List.flatMap_nil, List.append_nil, lists2]
    refine .cons (fun y hy k hk e => ?_) (.cons (fun y hy => by cases hy) .nil)
    rw [List.mem_singleton] at hy; subst hy
    have := (h2 k hk).2; have := h3 k e; omega
  · have h4 := h1 x hx k hk
    simp only [List.flatMap_cons, List.flatMap_nil, List.append_nil, lists2] at hy
    rcases List.mem_cons.1 hy with rfl | hy
    · have := (h2 k e).1; omega
    · rw [List.mem_singleton] at hy; subst hy
      have := h3 k e; omega
theorem Apart.others {A C : List StepP} {p : StepP} (h : Apart (A ++ p :: C)) : ∀ x, x ∈ A ∨ x ∈ C → ∀ y ∈ lists2 x, ∀ z ∈ lists2 p, ∀ k, z.ownBlock = some k → y.ownBlock ≠ some k := by
  unfold Apart at h
  rw [List.flatMap_append, List.pairwise_append, List.flatMap_cons, List.pairwise_append] at h
  obtain ⟨_, ⟨_, _, h2⟩, h3⟩ := h
  intro x hx y hy z hz k hk e
  rcases hx with hx | hx
  · exact h3 y (List.mem_flatMap.2 ⟨x, hx, hy⟩) z (List.mem_append_left _ hz) k e hk
  · exact h2 z hz y (List.mem_flatMap.2 ⟨x, hx, hy⟩) k hk e
theorem Apart.two {A C : List StepP} {p : StepP} (h : Apart (A ++ p :: C)) : ∀ k, (Value.slice p.ta p.s.tools.length p.tc).ownBlock = some k → (Value.slice p.na p.s.next.length p.nc).ownBlock ≠ some k := by
  unfold Apart at h
  rw [List.flatMap_append, List.pairwise_append, List.flatMap_cons, List.pairwise_append] at h
  obtain ⟨_, ⟨h1, _, _⟩, _⟩ := h
  cases h1 with
  | cons h1 _ => exact h1 _ (by simp)
theorem Bt.lists_lt {B : Nat} {q : FlowP} {h0 h1 h2 : Int} {a : Option Addr} {c : Nat} {P : List StepP} {W w : World} (h : Bt B q h0 h1 h2 a c P W w) : ∀ x ∈ P.flatMap lists2, ∀ k, x.ownBlock = some k → k < w.heap.size := by
  intro x hx k hk
  obtain ⟨p, hp, hx⟩ := List.mem_flatMap.1 hx
  obtain ⟨o1, o2⟩ := h.lists p hp
  rcases List.mem_cons.1 hx with rfl | hx
  · exact (o1.lt k hk).2
  · rw [List.mem_singleton] at hx; subst hx; exact (o2.lt k hk).2
theorem set_split {α : Type} : ∀ (L : List α) (i : Nat) (hi : i < L.length), ∃ A C, L = A ++ L[i] :: C ∧ A.length = i ∧ ∀ y, L.set i y = A ++ y :: C
  | x :: L, 0, _ => ⟨[], L, rfl, rfl, fun y => rfl⟩
  | x :: L, i + 1, hi => by
    obtain ⟨A, C, h1, h2, h3⟩ := set_split L i (by simpa using hi)
    refine ⟨x :: A, C, ?_, by simp [h2], fun y => ?_⟩
    · simp only [List.getElem_cons_succ, List.cons_append]; rw [← h1]
    · rw [List.set_cons_succ, h3]; rfl

structure Bf (B : Nat) (r : FlowP) (W w : World) : Prop where
  srow : w.ownsRow B 55 7 (.slice r.sa r.P.length r.sc) r.P.length (stepRow r.P)
  wrow : w.ownsRow B 58 3 (.slice r.wa r.W.length r.wc) r.W.length (winRow r.W)
  lists : ∀ p ∈ r.P, p.own w B
  fb : w.heap[B]? = some (flowBox r)
  rb : ∃ cs : Array Value, cs.size = 4 ∧ w.heap[B + 2]? = some (.cells cs 25)
  bel : Below B W w
theorem Bf.size {B : Nat} {r : FlowP} {W w : World} (h : Bf B r W w) : B + 2 < w.heap.size := by obtain ⟨_, _, h⟩ := h.rb; exact lt_of_block h
theorem Bf.below {B : Nat} {r : FlowP} {W w w' : World} (h : Bf B r W w) (hb : Below w.heap.size w w') : Bf B r W w' := by
  have hs := h.size
  obtain ⟨cs, hcs, hr⟩ := h.rb
  exact ⟨own_below h.srow hb, own_below h.wrow hb, fun p hp => ⟨(h.lists p hp).1.below hb, (h.lists p hp).2.below hb⟩, (hb.block _ (lt_of_block h.fb)).trans h.fb, ⟨cs, hcs, (hb.block _ (lt_of_block hr)).trans hr⟩, h.bel.trans (hb.mono (by omega))⟩
theorem Bf.ok {B : Nat} {r : FlowP} {W w : World} (h : Bf B r W w) : r.ok w := ⟨stepsA_of h.srow h.lists, winsA_of h.wrow⟩
/-- A block of type flow is written: nothing else is touched. -/
theorem flow_set {B b : Nat} {cs : Array Value} {w : World} (hb : w.heap[b]? = some (.cells cs 25)) (j : Nat) (u : Value) :
    (∀ {e : TypeId} {size : Nat} {v : Value} {n : Nat} {xs : List Value}, 25 ≠ e → w.ownsRow B e size v n xs → (w.setCell ⟨b, j, none⟩ u).ownsRow B e size v n xs) ∧
    (∀ p : StepP, p.own w B → p.own (w.setCell ⟨b, j, none⟩ u) B) := by
  have hg := grown_set (w := w) b j u
  have hr : ∀ e : TypeId, 25 ≠ e → ∀ k, (some b : Option Nat) = some k → ∃ cs e', w.heap[k]? = some (.cells cs e') ∧ e' ≠ e := fun e he k hk => by injection hk with hk; subst hk; exact ⟨_, _, hb, he⟩
  exact ⟨fun he h => own_kept h hg (hr _ he), fun p hp => ⟨hp.1.kept hg (hr _ (by decide)), hp.2.kept hg (hr _ (by decide))⟩⟩
/-- A cell of the flow's own box. -/
theorem Bf.setF {B : Nat} {r : FlowP} {W w : World} (h : Bf B r W w) (j : Nat) (n : Int) (r' : FlowP) (e1 : r'.sa = r.sa ∧ r'.sc = r.sc ∧ r'.P = r.P ∧ r'.wa = r.wa ∧ r'.wc = r.wc ∧ r'.W = r.W)
    (e2 : (#[.int .i64 r.least, .int .i64 r.most, .slice r.sa r.P.length r.sc, .slice r.wa r.W.length r.wc] : Array Value).setIfInBounds j (.int .i64 n) = #[.int .i64 r'.least, .int .i64 r'.most, .slice r.sa r.P.length r.sc, .slice r.wa r.W.length r.wc]) :
    Bf B r' W (w.setCell ⟨B, j, none⟩ (.int .i64 n)) := by
  obtain ⟨a1, a2, a3, a4, a5, a6⟩ := e1
  obtain ⟨lo, hi, sa, sc, P, wa, wc, Ws⟩ := r
  obtain ⟨lo', hi', sa', sc', P', wa', wc', Ws'⟩ := r'
  simp only at a1 a2 a3 a4 a5 a6 e2
  subst a1 a2 a3 a4 a5 a6
  obtain ⟨k1, k2⟩ := flow_set (B := B) h.fb j (.int .i64 n)
  obtain ⟨cs, hcs, hr⟩ := h.rb
  refine ⟨k1 (by decide) h.srow, k1 (by decide) h.wrow, fun p hp => k2 p (h.lists p hp), ?_, ⟨cs, hcs, ?_⟩, h.bel.trans ((Below.refl B w).setCell (p := ⟨B, j, none⟩) (Nat.le_refl B) _)⟩
  · rw [block_set h.fb, e2]
  · rw [Below.heap_setCell _ _ _ _ (by show B + 2 ≠ B; omega)]; exact hr
/-- The result's box. -/
theorem Bf.setR {B : Nat} {r : FlowP} {W w : World} (h : Bf B r W w) (j : Nat) (u : Value) : Bf B r W (w.setCell ⟨B + 2, j, none⟩ u) := by
  obtain ⟨cs, hcs, hr⟩ := h.rb
  obtain ⟨k1, k2⟩ := flow_set (B := B) hr j u
  refine ⟨k1 (by decide) h.srow, k1 (by decide) h.wrow, fun p hp => k2 p (h.lists p hp), ?_, ⟨_, by simp [hcs], block_set hr u⟩, h.bel.trans ((Below.refl B w).setCell (p := ⟨B + 2, j, none⟩) (Nat.le_add_right B 2) _)⟩
  rw [Below.heap_setCell _ _ _ _ (by show B ≠ B + 2; omega)]; exact h.fb
/-- Where the list of steps lies. -/
theorem Bf.row_at {B : Nat} {r : FlowP} {W w : World} (h : Bf B r W w) (h0 : 0 < r.P.length) : ∃ g cur, r.sa = some ⟨g, 0, none⟩ ∧ B ≤ g ∧ w.heap[g]? = some (.cells cur 55) ∧ ∀ i (hi : i < r.P.length) j v, j < 7 → (r.P[i].cells)[j]? = some v → cur[i * 7 + j]? = some v := by
  rcases h.srow.2 with ⟨_, e⟩ | ⟨g, cap, cur, e, hB, hg, _, _, _, ht⟩
  · omega
  · injection e with e _ _
    refine ⟨g, cur, e, hB, hg, fun i hi j v hj hv => ?_⟩
    have h1 : (stepRow r.P)[i * 7 + j]? = some v := by unfold stepRow; rw [flat_at StepP.cells 7 (fun _ => rfl) r.P i j hi hj]; exact hv
    rw [← ht, List.getElem?_take_of_lt (by omega)] at h1
    simpa using h1
/-- All but one step's lists. -/
structure Bo (B : Nat) (r : FlowP) (A C : List StepP) (W w : World) : Prop where
  srow : w.ownsRow B 55 7 (.slice r.sa r.P.length r.sc) r.P.length (stepRow r.P)
  wrow : w.ownsRow B 58 3 (.slice r.wa r.W.length r.wc) r.W.length (winRow r.W)
  lists : ∀ x, x ∈ A ∨ x ∈ C → x.own w B
  fb : w.heap[B]? = some (flowBox r)
  rb : ∃ cs : Array Value, cs.size = 4 ∧ w.heap[B + 2]? = some (.cells cs 25)
  bel : Below B W w
theorem Bf.bo {B : Nat} {r : FlowP} {W w : World} (h : Bf B r W w) {A C : List StepP} {p : StepP} (hP : r.P = A ++ p :: C) : Bo B r A C W w :=
  ⟨h.srow, h.wrow, fun x hx => h.lists x (by rw [hP]; rcases hx with hx | hx <;> simp [hx]), h.fb, h.rb, h.bel⟩
/-- A cell of a step in the list; the step that it is then has lists of the call's own. -/
theorem Bo.setS {B : Nat} {r : FlowP} {A C : List StepP} {W w : World} (h : Bo B r A C W w) {g : Nat} (hg : r.sa = some ⟨g, 0, none⟩) {p0 : StepP} (hP : r.P = A ++ p0 :: C) (j : Nat) (hj : j < 7) (u : Value) (p : StepP) (hp : p.cells = p0.cells.set j u) (ho : p.own w B) :
    Bf B { r with P := A ++ p :: C } W (w.setCell ⟨g, A.length * 7 + j, none⟩ u) := by
  obtain ⟨lo, hi', sa, sc, P, wa, wc, Ws⟩ := r
  simp only at hg hP
  subst hg
  have hs : w.ownsRow B 55 7 (.slice (some ⟨g, 0, none⟩) P.length sc) P.length (stepRow P) := h.srow
  obtain ⟨cur, hb⟩ := own_block hs (k := g) rfl
  have hB := (hs.lt g rfl).1
  have hgs := grown_set (w := w) g (A.length * 7 + j) u
  have hr : ∀ e : TypeId, 55 ≠ e → ∀ k, (some g : Option Nat) = some k → ∃ cs e', w.heap[k]? = some (.cells cs e') ∧ e' ≠ e := fun e he k hk => by injection hk with hk; subst hk; exact ⟨_, _, hb, he⟩
  have keep : ∀ {b : Nat} {cs : Array Value} {e : TypeId}, 55 ≠ e → w.heap[b]? = some (.cells cs e) → (w.setCell ⟨g, A.length * 7 + j, none⟩ u).heap[b]? = some (.cells cs e) := fun {b cs e} he hbk => by
    rw [Below.heap_setCell _ _ _ _ (by
      intro e0; simp only at e0; subst e0
      rw [hb] at hbk; injection hbk with hbk; injection hbk with _ hbk; exact he hbk)]
    exact hbk
  have hlen : (A ++ p :: C).length = P.length := by rw [hP]; simp
  have hi : A.length < P.length := by rw [hP]; simp
  have hgi : P[A.length] = p0 := by simp [hP]
  have hset : P.set A.length p = A ++ p :: C := by rw [hP]; simp
  obtain ⟨cs, hcs, hrb⟩ := h.rb
  have hsr := own_cell_set hs (A.length * 7 + j) u
  rw [stepRow_set P A.length hi p j u hj (by rw [hgi]; exact hp), hset] at hsr
  have ho' : p.own (w.setCell ⟨g, A.length * 7 + j, none⟩ u) B := ⟨ho.1.kept hgs (hr _ (by decide)), ho.2.kept hgs (hr _ (by decide))⟩
  have hl' : ∀ x, x ∈ A ∨ x ∈ C → x.own (w.setCell ⟨g, A.length * 7 + j, none⟩ u) B := fun x hx => ⟨(h.lists x hx).1.kept hgs (hr _ (by decide)), (h.lists x hx).2.kept hgs (hr _ (by decide))⟩
  refine ⟨by simp only [hlen]; exact hsr, own_kept h.wrow hgs (hr _ (by decide)), fun x hx => ?_, ?_, ⟨cs, hcs, keep (by decide) hrb⟩, h.bel.trans ((Below.refl B w).setCell (p := ⟨g, A.length * 7 + j, none⟩) hB u)⟩
  · rcases List.mem_append.1 hx with hx | hx
    · exact hl' x (.inl hx)
    · rcases List.mem_cons.1 hx with rfl | hx
      · exact ho'
      · exact hl' x (.inr hx)
  · have := keep (by decide) h.fb
    rw [this]; simp only [flowBox, hlen]
theorem Bf.setS {B : Nat} {r : FlowP} {W w : World} (h : Bf B r W w) {g : Nat} (hg : r.sa = some ⟨g, 0, none⟩) {A C : List StepP} {p0 : StepP} (hP : r.P = A ++ p0 :: C) (j : Nat) (hj : j < 7) (u : Value) (p : StepP) (hp : p.cells = p0.cells.set j u) (ho : p.own w B) :
    Bf B { r with P := A ++ p :: C } W (w.setCell ⟨g, A.length * 7 + j, none⟩ u) := (h.bo hP).setS hg hP j hj u p hp ho
/-- A row of integers that lies apart from all others is written or grows. -/
theorem Bf.ints {B : Nat} {r : FlowP} {W w w2 : World} (h : Bf B r W w) {A C : List StepP} {p : StepP} (hP : r.P = A ++ p :: C) (hap : Apart r.P) (t : Bool) {k0 : Option Nat} (hk0 : k0 = (bif t then Value.slice p.ta p.s.tools.length p.tc else Value.slice p.na p.s.next.length p.nc).ownBlock)
    (hg : w.grownBy w2 k0) : Bo B r A C W w2 ∧ (∀ {b : Nat} {cs : Array Value} {e : TypeId}, 3 ≠ e → w.heap[b]? = some (.cells cs e) → w2.heap[b]? = some (.cells cs e)) ∧ (bif t then IntOwn w2 B (.slice p.na p.s.next.length p.nc) p.s.next else IntOwn w2 B (.slice p.ta p.s.tools.length p.tc) p.s.tools) := by
  have hin : p ∈ r.P := by rw [hP]; simp
  have hkb : ∀ k, k0 = some k → B ≤ k ∧ ∃ cs, w.heap[k]? = some (.cells cs 3) := fun k hk => by
    rw [hk0] at hk
    cases t with
    | true => exact ⟨((h.lists p hin).1.lt k hk).1, own_block (h.lists p hin).1 hk⟩
    | false => exact ⟨((h.lists p hin).2.lt k hk).1, own_block (h.lists p hin).2 hk⟩
  have hr : ∀ e : TypeId, 3 ≠ e → ∀ k, k0 = some k → ∃ cs e', w.heap[k]? = some (.cells cs e') ∧ e' ≠ e := fun e he k hk => by obtain ⟨_, cs, hc⟩ := hkb k hk; exact ⟨cs, _, hc, he⟩
  have keep : ∀ {b : Nat} {cs : Array Value} {e : TypeId}, 3 ≠ e → w.heap[b]? = some (.cells cs e) → w2.heap[b]? = some (.cells cs e) := fun {b cs e} he hbk => by
    rw [hg.block b (lt_of_block hbk) (fun e0 => by
      obtain ⟨cs, e', h3, h4⟩ := hr e he b e0.symm
      rw [hbk] at h3; injection h3 with h3; injection h3 with _ h3; exact h4 h3.symm)]
    exact hbk
  have other : ∀ {v : Value} {L : List Int}, IntOwn w B v L → (∀ k, k0 = some k → v.ownBlock ≠ some k) → IntOwn w2 B v L := fun {v L} ho hne => by
    refine World.ownsRow.kept ho hg ?_
    cases hv : v.ownBlock with
    | none => exact .inl rfl
    | some k => exact .inr fun e => hne k e.symm hv
  have hap' := hap
  rw [hP] at hap'
  have hz : (bif t then Value.slice p.ta p.s.tools.length p.tc else Value.slice p.na p.s.next.length p.nc) ∈ lists2 p := by cases t <;> simp [lists2]
  obtain ⟨cs, hcs, hrb⟩ := h.rb
  have hs := h.size
  refine ⟨⟨own_kept h.srow hg (hr _ (by decide)), own_kept h.wrow hg (hr _ (by decide)), fun x hx => ?_, keep (by decide) h.fb, ⟨cs, hcs, keep (by decide) hrb⟩, h.bel.trans ((Below.refl B w).grown hg (by omega) (fun k hk => (hkb k hk).1))⟩, keep, ?_⟩
  · have hxP : x ∈ r.P := by rw [hP]; rcases hx with hx | hx <;> simp [hx]
    have hne := hap'.others x hx
    exact ⟨other (h.lists x hxP).1 (fun k hk => hne _ (by simp [lists2]) _ hz k (hk0 ▸ hk)), other (h.lists x hxP).2 (fun k hk => hne _ (by simp [lists2]) _ hz k (hk0 ▸ hk))⟩
  · cases t with
    | true => exact other (h.lists p hin).2 (fun k hk => hap'.two k (hk0 ▸ hk))
    | false => exact other (h.lists p hin).1 (fun k hk e => hap'.two k e (hk0 ▸ hk))
/-- The first tool of a step. -/
theorem Bf.setT {B : Nat} {r : FlowP} {W w : World} (h : Bf B r W w) {A C : List StepP} {p : StepP} (hP : r.P = A ++ p :: C) (hap : Apart r.P) {t : Nat} (ht : p.ta = some ⟨t, 0, none⟩) (n : Int) : ∃ r', Bf B r' W (w.setCell ⟨t, 0, none⟩ (.int .i64 n)) := by
  have hin : p ∈ r.P := by rw [hP]; simp
  obtain ⟨hb, -, hn⟩ := h.ints hP hap true (k0 := some t) (by simp [ht, Value.ownBlock]) (grown_set (w := w) t 0 (.int .i64 n))
  have h1 := (h.lists p hin).1
  unfold IntOwn at h1
  rw [ht] at h1
  have h2 := own_cell_set h1 0 (.int .i64 n)
  obtain ⟨⟨rc, tl, mn, mx, nx, bk, lm⟩, ta, tc, na, nc⟩ := p
  simp only at ht h2 hn
  subst ht
  have e : (intV tl).set 0 (.int .i64 n) = intV (tl.set 0 n) := by simp [intV, List.map_set]
  have hl : (tl.set 0 n).length = tl.length := by simp
  let p' : StepP := ⟨⟨rc, tl.set 0 n, mn, mx, nx, bk, lm⟩, some ⟨t, 0, none⟩, tc, na, nc⟩
  have hcells : p'.cells = StepP.cells ⟨⟨rc, tl, mn, mx, nx, bk, lm⟩, some ⟨t, 0, none⟩, tc, na, nc⟩ := by simp [StepP.cells, p']
  have ho : p'.own (w.setCell ⟨t, 0, none⟩ (.int .i64 n)) B := by
    refine ⟨?_, hn⟩
    show IntOwn _ B (.slice (some ⟨t, 0, none⟩) (tl.set 0 n).length tc) (tl.set 0 n)
    unfold IntOwn
    rw [hl, ← e]; exact h2
  have hlen : (A ++ p' :: C).length = r.P.length := by rw [hP]; simp
  have hrow : stepRow (A ++ p' :: C) = stepRow r.P := by rw [hP]; simp only [stepRow, List.flatMap_append, List.flatMap_cons, hcells]
  refine ⟨{ r with P := A ++ p' :: C }, ⟨?_, hb.wrow, fun x hx => ?_, ?_, hb.rb, hb.bel⟩⟩
  · simp only [hlen, hrow]; exact hb.srow
  · rcases List.mem_append.1 hx with hx | hx
    · exact hb.lists x (.inl hx)
    · rcases List.mem_cons.1 hx with rfl | hx
      · exact ho
      · exact hb.lists x (.inr hx)
  · rw [hb.fb]; simp only [flowBox, hlen]
theorem intV_snoc (L : List Int) (n : Int) : intV (L ++ [n]) = intV L ++ [.int .i64 n] := by simp [intV]
/-- A list of a step is appended to, and stored. -/
theorem Bf.app {B : Nat} {r : FlowP} {W w w2 : World} (h : Bf B r W w) {g : Nat} (hg : r.sa = some ⟨g, 0, none⟩) {A C : List StepP} {p : StepP} (hP : r.P = A ++ p :: C) (hap : Apart r.P) (t : Bool) (n : Int) {g' cap : Nat} :
    (bif t then w2.ownsRow B 3 1 (.slice (some ⟨g', 0, none⟩) (p.s.tools.length + 1) cap) (p.s.tools.length + 1) (intV p.s.tools ++ [.int .i64 n]) else w2.ownsRow B 3 1 (.slice (some ⟨g', 0, none⟩) (p.s.next.length + 1) cap) (p.s.next.length + 1) (intV p.s.next ++ [.int .i64 n])) →
    w.grownBy w2 (bif t then Value.slice p.ta p.s.tools.length p.tc else Value.slice p.na p.s.next.length p.nc).ownBlock →
    (∀ {cs : Array Value}, w.heap[g]? = some (.cells cs 55) → w2.heap[g]? = some (.cells cs 55)) ∧ ∃ r', Bf B r' W (w2.setCell ⟨g, A.length * 7 + (bif t then 1 else 4), none⟩ (.slice (some ⟨g', 0, none⟩) ((bif t then p.s.tools.length else p.s.next.length) + 1) cap)) := by
  intro ho hgr
  obtain ⟨hb, hk, hn⟩ := h.ints hP hap t rfl hgr
  refine ⟨fun hc => hk (by decide) hc, ?_⟩
  obtain ⟨⟨rc, tl, mn, mx, nx, bk, lm⟩, ta, tc, na, nc⟩ := p
  cases t with
  | true =>
    refine ⟨_, hb.setS hg hP 1 (by decide) _ ⟨⟨rc, tl ++ [n], mn, mx, nx, bk, lm⟩, some ⟨g', 0, none⟩, cap, na, nc⟩ (by simp [StepP.cells]) ⟨?_, hn⟩⟩
    show IntOwn _ _ (.slice _ (tl ++ [n]).length _) (tl ++ [n])
    unfold IntOwn
    rw [intV_snoc, show (tl ++ [n]).length = tl.length + 1 by simp]; exact ho
  | false =>
    refine ⟨_, hb.setS hg hP 4 (by decide) _ ⟨⟨rc, tl, mn, mx, nx ++ [n], bk, lm⟩, ta, tc, some ⟨g', 0, none⟩, cap⟩ (by simp [StepP.cells]) ⟨hn, ?_⟩⟩
    show IntOwn _ _ (.slice _ (nx ++ [n]).length _) (nx ++ [n])
    unfold IntOwn
    rw [intV_snoc, show (nx ++ [n]).length = nx.length + 1 by simp]; exact ho
/-- A window more. -/
theorem Bf.pushedW {B : Nat} {q : FlowP} {W w1 w2 : World} (h1 : Bf B q W w1) (v : Fl.Win) {g cap : Nat}
    (hown : w2.ownsRow B 58 3 (.slice (some ⟨g, 0, none⟩) (q.W.length + 1) cap) (q.W.length + 1) (winRow q.W ++ winCells v)) (hgrow : w1.grownBy w2 (Value.slice q.wa q.W.length q.wc).ownBlock) :
    w2.heap[B]? = some (flowBox q) ∧ Bf B { q with W := q.W ++ [v], wa := some ⟨g, 0, none⟩, wc := cap } W (w2.setCell ⟨B, 3, none⟩ (.slice (some ⟨g, 0, none⟩) (q.W.length + 1) cap)) := by
  have hr : ∀ e : TypeId, 58 ≠ e → ∀ k, (Value.slice q.wa q.W.length q.wc).ownBlock = some k → ∃ cs e', w1.heap[k]? = some (.cells cs e') ∧ e' ≠ e := fun e he k hk => by
    obtain ⟨cs, hcs⟩ := own_block h1.wrow hk
    exact ⟨cs, _, hcs, he⟩
  have keep : ∀ {b : Nat} {cs : Array Value} {e : TypeId}, 58 ≠ e → w1.heap[b]? = some (.cells cs e) → w2.heap[b]? = some (.cells cs e) := fun {b cs e} he hbk => by
    rw [hgrow.block b (lt_of_block hbk) (fun e0 => by
      obtain ⟨cs, e', h3, h4⟩ := hr e he b e0.symm
      rw [hbk] at h3; injection h3 with h3; injection h3 with _ h3; exact h4 h3.symm)]
    exact hbk
  have fb2 := keep (by decide) h1.fb
  obtain ⟨cs, hcs, hrb⟩ := h1.rb
  have rb2 := keep (by decide) hrb
  have hs := h1.size
  obtain ⟨k1, k2⟩ := flow_set (B := B) fb2 3 (.slice (some ⟨g, 0, none⟩) (q.W.length + 1) cap)
  have hlen : (q.W ++ [v]).length = q.W.length + 1 := by simp
  refine ⟨fb2, ⟨k1 (by decide) (own_kept h1.srow hgrow (hr _ (by decide))), ?_, fun x hx => k2 x ⟨(h1.lists x hx).1.kept hgrow (hr _ (by decide)), (h1.lists x hx).2.kept hgrow (hr _ (by decide))⟩, ?_, ⟨cs, hcs, ?_⟩, ?_⟩⟩
  · simp only [hlen, winRow_snoc]; exact k1 (by decide) hown
  · rw [block_set fb2]; simp [flowBox]
  · rw [Below.heap_setCell _ _ _ _ (by show B + 2 ≠ B; omega)]; exact rb2
  · exact (h1.bel.trans ((Below.refl B w1).grown hgrow (by omega) (fun k hk => (h1.wrow.lt k hk).1))).trans ((Below.refl _ _).setCell (Nat.le_refl B) _)
theorem winRow_set0 (v : Fl.Win) (L : List Fl.Win) (n : Int) : (winRow (v :: L)).set 2 (.int .i64 n) = winRow (⟨v.src, v.dst, n⟩ :: L) := rfl
/-- The first window's limit. -/
theorem Bf.setW {B : Nat} {r : FlowP} {W w : World} (h : Bf B r W w) {v : Fl.Win} {L : List Fl.Win} (hW : r.W = v :: L) {g : Nat} (hg : r.wa = some ⟨g, 0, none⟩) (n : Int) : ∃ r', Bf B r' W (w.setCell ⟨g, 2, none⟩ (.int .i64 n)) := by
  obtain ⟨lo, hi', sa, sc, P, wa, wc, Ws⟩ := r
  simp only at hW hg
  subst hW hg
  have hs : w.ownsRow B 58 3 (.slice (some ⟨g, 0, none⟩) (v :: L).length wc) (v :: L).length (winRow (v :: L)) := h.wrow
  obtain ⟨cur, hb⟩ := own_block hs (k := g) rfl
  have hB := (hs.lt g rfl).1
  have hgs := grown_set (w := w) g 2 (.int .i64 n)
  have hr : ∀ e : TypeId, 58 ≠ e → ∀ k, (some g : Option Nat) = some k → ∃ cs e', w.heap[k]? = some (.cells cs e') ∧ e' ≠ e := fun e he k hk => by injection hk with hk; subst hk; exact ⟨_, _, hb, he⟩
  have keep : ∀ {b : Nat} {cs : Array Value} {e : TypeId}, 58 ≠ e → w.heap[b]? = some (.cells cs e) → (w.setCell ⟨g, 2, none⟩ (.int .i64 n)).heap[b]? = some (.cells cs e) := fun {b cs e} he hbk => by
    rw [Below.heap_setCell _ _ _ _ (by
      intro e0; simp only at e0; subst e0
      rw [hb] at hbk; injection hbk with hbk; injection hbk with _ hbk; exact he hbk)]
    exact hbk
  obtain ⟨cs, hcs, hrb⟩ := h.rb
  have hs2 := own_cell_set hs 2 (.int .i64 n)
  rw [winRow_set0] at hs2
  exact ⟨⟨lo, hi', sa, sc, P, some ⟨g, 0, none⟩, wc, ⟨v.src, v.dst, n⟩ :: L⟩, own_kept h.srow hgs (hr _ (by decide)), hs2, fun x hx => ⟨(h.lists x hx).1.kept hgs (hr _ (by decide)), (h.lists x hx).2.kept hgs (hr _ (by decide))⟩, keep (by decide) h.fb, ⟨cs, hcs, keep (by decide) hrb⟩,
    h.bel.trans ((Below.refl B w).setCell (p := ⟨g, 2, none⟩) hB _)⟩

theorem Bf.rq {B : Nat} {r : FlowP} {W w : World} (h : Bf B r W w) : ∃ x0 x1 x2 x3, w.heap[B + 1 + 1]? = some (.cells #[x0, x1, x2, x3] 25) := by
  obtain ⟨⟨cs⟩, hcs, hr⟩ := h.rb
  match cs, hcs with
  | [x0, x1, x2, x3], _ => exact ⟨x0, x1, x2, x3, hr⟩
theorem Bf.set4 {B : Nat} {r : FlowP} {W w : World} (h : Bf B r W w) (u0 u1 u2 u3 : Value) : Bf B r W ((((w.setCell ⟨B + 1 + 1, 0, none⟩ u0).setCell ⟨B + 1 + 1, 1, none⟩ u1).setCell ⟨B + 1 + 1, 2, none⟩ u2).setCell ⟨B + 1 + 1, 3, none⟩ u3) :=
  (((h.setR 0 u0).setR 1 u1).setR 2 u2).setR 3 u3

/-! ### from the loop on -/
structure Bg (B : Nat) (r : FlowP) (h0 h1 h2 : Int) (W w : World) : Prop where
  srow : w.ownsRow B 55 7 (.slice r.sa r.P.length r.sc) r.P.length (stepRow r.P)
  lists : ∀ p ∈ r.P, p.own w B
  fb : w.heap[B]? = some (flowBox r)
  hb : w.heap[B + 1]? = some (.cells #[.int .i64 h0, .int .i64 h1, .int .i64 h2] 28)
  rb : ∃ cs : Array Value, cs.size = 4 ∧ w.heap[B + 2]? = some (.cells cs 25)
  bel : Below B W w
theorem Bt.stored {B : Nat} {q : FlowP} {h0 h1 h2 : Int} {a : Option Addr} {c : Nat} {P : List StepP} {W w : World} (h : Bt B q h0 h1 h2 a c P W w) : Bg B ⟨q.least, q.most, a, c, P, q.wa, q.wc, q.W⟩ h0 h1 h2 W (w.setCell ⟨B, 2, none⟩ (.slice a P.length c)) := by
  obtain ⟨k1, k2⟩ := flow_set (B := B) h.fb 2 (.slice a P.length c)
  refine ⟨k1 (by decide) h.srow, fun p hp => k2 p (h.lists p hp), ?_, ?_, ⟨#[.int .i64 0, .int .i64 0, .slice none 0 0, .slice none 0 0], rfl, ?_⟩, h.bel.trans ((Below.refl B w).setCell (p := ⟨B, 2, none⟩) (Nat.le_refl B) _)⟩
  · rw [block_set h.fb]; rfl
  · rw [Below.heap_setCell _ _ _ _ (by show B + 1 ≠ B; omega)]; exact h.hb
  · rw [Below.heap_setCell _ _ _ _ (by show B + 2 ≠ B; omega)]; exact h.rb
theorem own_mono {w : World} {base base' : Nat} {e : TypeId} {size : Nat} {v : Value} {n : Nat} {xs : List Value} (h : w.ownsRow base e size v n xs) (hb : base' ≤ base) : w.ownsRow base' e size v n xs := by
  obtain ⟨h1, h2 | ⟨g, cap, cur, rfl, h2, h3, h4⟩⟩ := h
  · exact ⟨h1, .inl h2⟩
  · exact ⟨h1, .inr ⟨g, cap, cur, rfl, Nat.le_trans hb h2, h3, h4⟩⟩
theorem Bg.fin {B : Nat} {r : FlowP} {h0 h1 h2 : Int} {W w w2 : World} (h : Bg B r h0 h1 h2 W w) (hb : Below w.heap.size w w2) {va : Option Addr} {vc : Nat} (hw : w2.ownsRow w.heap.size 58 3 (.slice va r.W.length vc) r.W.length (winRow r.W)) :
    Bf B { r with wa := va, wc := vc } W (w2.setCell ⟨B, 3, none⟩ (.slice va r.W.length vc)) ∧ (w2.setCell ⟨B, 3, none⟩ (.slice va r.W.length vc)).heap[B + 1]? = some (.cells #[.int .i64 h0, .int .i64 h1, .int .i64 h2] 28) ∧ w2.heap[B]? = some (flowBox r) := by
  obtain ⟨cs, hcs, hrb⟩ := h.rb
  have hs := lt_of_block hrb
  have fb2 := (hb.block _ (lt_of_block h.fb)).trans h.fb
  obtain ⟨k1, k2⟩ := flow_set (B := B) fb2 3 (.slice va r.W.length vc)
  refine ⟨⟨k1 (by decide) (own_below h.srow hb), k1 (by decide) (own_mono hw (by omega)), fun p hp => k2 p ⟨(h.lists p hp).1.below hb, (h.lists p hp).2.below hb⟩, ?_, ⟨cs, hcs, ?_⟩, ?_⟩, ?_, fb2⟩
  · rw [block_set fb2]; rfl
  · rw [Below.heap_setCell _ _ _ _ (by show B + 2 ≠ B; omega)]; exact (hb.block _ hs).trans hrb
  · exact (h.bel.trans (hb.mono (by omega))).trans ((Below.refl _ _).setCell (Nat.le_refl B) _)
  · rw [Below.heap_setCell _ _ _ _ (by show B + 1 ≠ B; omega)]; exact (hb.block _ (lt_of_block h.hb)).trans h.hb
end Go.Proofs.YtblnfcffalaeaaaGreatDoor
