/-
  What the reader holds: a flow's steps and windows in rows of the call's own; what keeps it.
-/
import Derived.Test.YtcaclijkkbhfhaaGreatDoorNums
namespace Go.Proofs.YtcaclijkkbhfhaaGreatDoor
open Go.RowKit Go.Shelf

/-! ### rows of different kinds lie apart -/
theorem own_block {w : World} {base : Nat} {e : TypeId} {size : Nat} {v : Value} {n : Nat} {xs : List Value} (h : w.ownsRow base e size v n xs) {k : Nat} (hk : v.ownBlock = some k) : ∃ cs, w.heap[k]? = some (.cells cs e) := by
  rcases h.2 with ⟨rfl, _⟩ | ⟨g, cap, cur, rfl, _, hg, _⟩
  · simp [Value.ownBlock] at hk
  · simp only [Value.ownBlock, Option.some.injEq] at hk; subst hk; exact ⟨cur, hg⟩
/-- A row is kept where the one block that is written is of another kind. -/
theorem own_kept {w w' : World} {row : Option Nat} {base : Nat} {e : TypeId} {size : Nat} {v : Value} {n : Nat} {xs : List Value} (h : w.ownsRow base e size v n xs) (hg : w.grownBy w' row)
    (hr : ∀ k, row = some k → ∃ cs e', w.heap[k]? = some (.cells cs e') ∧ e' ≠ e) : w'.ownsRow base e size v n xs := by
  refine h.kept hg ?_
  cases hv : v.ownBlock with
  | none => exact .inl rfl
  | some k =>
    refine .inr fun e0 => ?_
    obtain ⟨cs, e', h1, h2⟩ := hr k e0.symm
    obtain ⟨cs', h3⟩ := own_block h hv
    rw [h1] at h3
    injection h3 with h3; injection h3 with _ h3; exact h2 h3
theorem IntOwn.kept {w w' : World} {row : Option Nat} {base : Nat} {v : Value} {L : List Int} (h : IntOwn w base v L) (hg : w.grownBy w' row) (hr : ∀ k, row = some k → ∃ cs e', w.heap[k]? = some (.cells cs e') ∧ e' ≠ 3) : IntOwn w' base v L := own_kept h hg hr
theorem own_below {w w' : World} {base : Nat} {e : TypeId} {size : Nat} {v : Value} {n : Nat} {xs : List Value} (h : w.ownsRow base e size v n xs) (hb : Below w.heap.size w w') : w'.ownsRow base e size v n xs := by
  refine own_kept (row := none) h ⟨hb.os, hb.tape, hb.output, hb.size, fun k hk _ => hb.block k hk⟩ (fun k hk => by cases hk)
theorem IntOwn.kept_only {R : Nat} {c : Rd} {w w' : World} {base : Nat} {v : Value} {L : List Int} (h : IntOwn w base v L) (hR : RdAt w R c) (ho : Only R w w') : IntOwn w' base v L :=
  h.kept ho (fun k hk => by injection hk with hk; subst hk; exact ⟨_, _, hR, by decide⟩)

/-! ### steps and windows as cells -/
abbrev StepP.cells (p : StepP) : List Value := [.int .i64 p.s.recipe, .slice p.ta p.s.tools.length p.tc, .int .i64 p.s.least, .int .i64 p.s.most, .slice p.na p.s.next.length p.nc, .int .i64 p.s.back, .int .i64 p.s.limit]
abbrev winCells (v : Fl.Win) : List Value := [.int .i64 v.src, .int .i64 v.dst, .int .i64 v.limit]
def stepRow (P : List StepP) : List Value := P.flatMap StepP.cells
def winRow (L : List Fl.Win) : List Value := L.flatMap winCells
theorem flat_at {α : Type} (f : α → List Value) (k : Nat) (hk : ∀ x, (f x).length = k) : ∀ (L : List α) (i j : Nat) (hi : i < L.length), j < k → (L.flatMap f)[i * k + j]? = (f L[i])[j]?
  | x :: L, 0, j, hi, hj => by
    rw [List.flatMap_cons, Nat.zero_mul, Nat.zero_add, List.getElem?_append_left (by rw [hk]; exact hj)]; rfl
  | x :: L, i + 1, j, hi, hj => by
    rw [List.flatMap_cons, List.getElem?_append_right (by rw [hk, Nat.succ_mul]; omega), hk]
    have : (i + 1) * k + j - k = i * k + j := by rw [Nat.succ_mul]; omega
    rw [this]
    exact flat_at f k hk L i j (by simpa using hi) hj
theorem stepRow_snoc (P : List StepP) (p : StepP) : stepRow (P ++ [p]) = stepRow P ++ p.cells := by simp [stepRow]
theorem winRow_snoc (L : List Fl.Win) (v : Fl.Win) : winRow (L ++ [v]) = winRow L ++ winCells v := by simp [winRow]

/-- The two lists of a step, in rows of the call's own. -/
def StepP.own (w : World) (B : Nat) (p : StepP) : Prop := IntOwn w B (.slice p.ta p.s.tools.length p.tc) p.s.tools ∧ IntOwn w B (.slice p.na p.s.next.length p.nc) p.s.next
theorem IntOwn.intA {w : World} {B : Nat} {a : Option Addr} {c : Nat} {L : List Int} (h : IntOwn w B (.slice a L.length c) L) : IntA w a c L := by
  obtain ⟨a', c', e, h', _⟩ := h.arg
  injection e with e1 e2 e3; subst e1; subst e3; exact h'
theorem StepP.own.ok {w : World} {B : Nat} {p : StepP} (h : p.own w B) : p.ok w := ⟨h.1.intA, h.2.intA⟩
theorem own_slice {w : World} {base : Nat} {e : TypeId} {size : Nat} {v : Value} {n : Nat} {xs : List Value} (h : w.ownsRow base e size v n xs) : ∃ a c, v = .slice a n c ∧ n ≤ c ∧ c ≤ maxLen ∧ (0 < n → ∃ g, a = some ⟨g, 0, none⟩ ∧ g < w.heap.size ∧ ∀ (j : Nat) (u : Value), xs[j]? = some u → w.cell? ⟨g, 0 + j, none⟩ = some u) := by
  rcases h.2 with ⟨rfl, h0⟩ | ⟨g, cap, cur, rfl, h2, h3, h4, h5, h6, h7⟩
  · exact ⟨none, 0, by rw [h0], by omega, by decide, fun hn => by omega⟩
  · refine ⟨_, cap, rfl, h4, h5, fun _ => ⟨g, rfl, lt_of_block h3, fun j u hu => ?_⟩⟩
    have := h.cells (g := g) rfl j u hu
    cases j <;> simpa [Addr.add] using this
theorem stepsA_of {w : World} {B : Nat} {a : Option Addr} {c : Nat} {P : List StepP} (h : w.ownsRow B 55 7 (.slice a P.length c) P.length (stepRow P)) (hp : ∀ p ∈ P, p.own w B) : StepsA w a c P := by
  obtain ⟨a', c', e, h1, h2, h3⟩ := own_slice h
  injection e with e1 e2 e3; subst e1; subst e3
  refine ⟨h1, h2, fun i hi => ?_⟩
  obtain ⟨g, rfl, hg, hc⟩ := h3 (by omega)
  have at_ : ∀ j v, j < 7 → (P[i].cells)[j]? = some v → w.cell? ⟨g, 0 + (i * 7 + j), none⟩ = some v := fun j v hj hv => hc _ _ (by
    unfold stepRow; rw [flat_at StepP.cells 7 (fun _ => rfl) P i j hi hj]; exact hv)
  refine ⟨g, 0, rfl, hg, ?_, (hp _ (List.getElem_mem hi)).ok⟩
  have z : ∀ j, 0 + (i * 7 + j) = 0 + i * 7 + j := fun j => by omega
  exact ⟨by have := at_ 0 _ (by decide) rfl; simpa using this, by have := at_ 1 _ (by decide) rfl; rwa [z] at this, by have := at_ 2 _ (by decide) rfl; rwa [z] at this, by have := at_ 3 _ (by decide) rfl; rwa [z] at this,
    by have := at_ 4 _ (by decide) rfl; rwa [z] at this, by have := at_ 5 _ (by decide) rfl; rwa [z] at this, by have := at_ 6 _ (by decide) rfl; rwa [z] at this⟩
theorem winsA_of {w : World} {B : Nat} {a : Option Addr} {c : Nat} {L : List Fl.Win} (h : w.ownsRow B 58 3 (.slice a L.length c) L.length (winRow L)) : WinsA w a c L := by
  obtain ⟨a', c', e, h1, h2, h3⟩ := own_slice h
  injection e with e1 e2 e3; subst e1; subst e3
  refine ⟨h1, h2, fun i hi => ?_⟩
  obtain ⟨g, rfl, hg, hc⟩ := h3 (by omega)
  have at_ : ∀ j v, j < 3 → (winCells L[i])[j]? = some v → w.cell? ⟨g, 0 + (i * 3 + j), none⟩ = some v := fun j v hj hv => hc _ _ (by
    unfold winRow; rw [flat_at winCells 3 (fun _ => rfl) L i j hi hj]; exact hv)
  refine ⟨g, 0, rfl, hg, ?_⟩
  have z : ∀ j, 0 + (i * 3 + j) = 0 + i * 3 + j := fun j => by omega
  exact ⟨by have := at_ 0 _ (by decide) rfl; simpa using this, by have := at_ 1 _ (by decide) rfl; rwa [z] at this, by have := at_ 2 _ (by decide) rfl; rwa [z] at this⟩

/-! ### the reader with its flow -/
structure Holds (B R : Nat) (c : Rd) (q : FlowP) (w : World) : Prop where
  at_ : RdAt w R c
  ge : B ≤ R
  mn : c.least = q.least
  mx : c.most = q.most
  sv : c.sv = .slice q.sa q.P.length q.sc
  wv : c.wv = .slice q.wa q.W.length q.wc
  srow : w.ownsRow B 55 7 (.slice q.sa q.P.length q.sc) q.P.length (stepRow q.P)
  wrow : w.ownsRow B 58 3 (.slice q.wa q.W.length q.wc) q.W.length (winRow q.W)
  lists : ∀ p ∈ q.P, p.own w B
theorem Holds.ok {B R : Nat} {c : Rd} {q : FlowP} {w : World} (h : Holds B R c q w) : q.ok w := ⟨stepsA_of h.srow h.lists, winsA_of h.wrow⟩
theorem Holds.only {B R : Nat} {c c' : Rd} {q : FlowP} {w w' : World} (h : Holds B R c q w) (ho : Only R w w') (h' : RdAt w' R c') (e1 : c'.least = c.least) (e2 : c'.most = c.most) (e3 : c'.sv = c.sv) (e4 : c'.wv = c.wv) : Holds B R c' q w' := by
  have hr : ∀ e : TypeId, 76 ≠ e → ∀ k, (some R : Option Nat) = some k → ∃ cs e', w.heap[k]? = some (.cells cs e') ∧ e' ≠ e := fun e he k hk => by injection hk with hk; subst hk; exact ⟨_, _, h.at_, he⟩
  exact ⟨h', h.ge, e1.trans h.mn, e2.trans h.mx, e3.trans h.sv, e4.trans h.wv, own_kept h.srow ho (hr _ (by decide)), own_kept h.wrow ho (hr _ (by decide)),
    fun p hp => ⟨(h.lists p hp).1.kept ho (hr _ (by decide)), (h.lists p hp).2.kept ho (hr _ (by decide))⟩⟩
theorem Holds.below {B R : Nat} {c : Rd} {q : FlowP} {w w' : World} (h : Holds B R c q w) (hb : Below w.heap.size w w') : Holds B R c q w' :=
  h.only (Only.ofBelow hb) (h.at_.below hb) rfl rfl rfl rfl
/-- What a reading method leaves alone: all below B, and each block but the reader's and those of the two rows' kinds. -/
structure Fr (B R : Nat) (w w' : World) : Prop where
  below : Below B w w'
  rest : ∀ k o, k ≠ R → w.heap[k]? = some o → (∀ cs, o ≠ .cells cs 55 ∧ o ≠ .cells cs 58) → w'.heap[k]? = some o
theorem Fr.refl (B R : Nat) (w : World) : Fr B R w w := ⟨Below.refl _ _, fun _ _ _ h _ => h⟩
theorem Fr.trans {B R : Nat} {a b c : World} (h : Fr B R a b) (k : Fr B R b c) : Fr B R a c := ⟨h.below.trans k.below, fun i o hi ho hn => k.rest i o hi (h.rest i o hi ho hn) hn⟩
theorem Fr.only {B R : Nat} {w w' : World} (ho : Only R w w') (hB : B ≤ w.heap.size) (hR : B ≤ R) : Fr B R w w' :=
  ⟨ho.below hB hR, fun k o hk h _ => (ho.block k (lt_of_block h) (by intro e; injection e with e; exact hk e)).trans h⟩
theorem Fr.ofBelow {B R : Nat} {w w' : World} (hb : Below w.heap.size w w') (hB : B ≤ w.heap.size) : Fr B R w w' := ⟨hb.mono hB, fun k _ _ h _ => (hb.block k (lt_of_block h)).trans h⟩
/-- A row of the call's own, of one of the two kinds, has been appended to. -/
theorem Fr.row {B R : Nat} {w w' : World} {e : TypeId} {size : Nat} {v : Value} {n : Nat} {xs : List Value} (he : e = 55 ∨ e = 58) (h : w.ownsRow B e size v n xs) (hg : w.grownBy w' v.ownBlock) (hB : B ≤ w.heap.size) : Fr B R w w' :=
  ⟨(Below.refl B w).grown hg hB (fun k hk => (h.lt k hk).1), fun k o _ ho hn => (hg.block k (lt_of_block ho) (fun e0 => by
    obtain ⟨cs, h1⟩ := own_block h e0.symm
    rw [h1] at ho; injection ho with ho
    rcases he with rfl | rfl
    · exact (hn cs).1 ho.symm
    · exact (hn cs).2 ho.symm)).trans ho⟩
end Go.Proofs.YtcaclijkkbhfhaaGreatDoor
