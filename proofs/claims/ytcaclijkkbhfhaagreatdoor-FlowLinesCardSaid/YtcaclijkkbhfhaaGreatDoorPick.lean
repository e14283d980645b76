/-
  pick, after; arrays of six and three integers in memory; what the reference's Make holds while it builds a flow.
-/
import Derived.Test.YtcaclijkkbhfhaaGreatDoorSane
namespace Go.Proofs.YtcaclijkkbhfhaaGreatDoor
open Go.RowKit Go.Shelf

def pickZ (c n : Int) : Int := if c < 0 then (-(c + 1)) % n else c % n
theorem pickZ_bd {c n : Int} (h : 0 < n) : 0 ≤ pickZ c n ∧ pickZ c n < n := by
  unfold pickZ; split
  · exact ⟨Int.emod_nonneg _ (by omega), Int.emod_lt_of_pos _ h⟩
  · exact ⟨Int.emod_nonneg _ (by omega), Int.emod_lt_of_pos _ h⟩
theorem refPick_any (c n : Int) (w : World) (hc : Fits c) (hn : 0 < n ∧ n ≤ 1000000000) : Calls Tryz.prog 27 #[.int .i64 c, .int .i64 n] w fun e w' => e = .returned (.int .i64 (pickZ c n)) ∧ w = w' := by
  obtain ⟨c1, c2⟩ := hc
  obtain ⟨n1, n2⟩ := hn
  have hne : ¬ n = 0 := by omega
  by_cases h : c < 0
  · have h0 : 0 ≤ -(c + 1) := by omega
    have E := Lib.hid (show pickZ c n = -((c + 1).tmod n) by unfold pickZ; rw [if_pos h, ← Int.neg_tmod, Int.tmod_eq_emod_of_nonneg h0])
    go_enter Tryz.func27, Tryz.ntmps27
    go_wp2
    go_ret
    exact ⟨ret_int E.out.symm, rfl⟩
  · have h0 : 0 ≤ c := by omega
    have E := Lib.hid (show pickZ c n = c % n by unfold pickZ; rw [if_neg h])
    go_enter Tryz.func27, Tryz.ntmps27
    go_wp2
    go_ret
    exact ⟨ret_int E.out.symm, rfl⟩
theorem pick_any (c n : Int) (w : World) (hc : Fits c) (hn : 0 < n ∧ n ≤ 1000000000) : Calls Tryz.prog 23 #[.int .i64 c, .int .i64 n] w fun e w' => e = .returned (.int .i64 (pickZ c n)) ∧ w = w' := by
  obtain ⟨c1, c2⟩ := hc
  obtain ⟨n1, n2⟩ := hn
  have hne : ¬ n = 0 := by omega
  by_cases h : c < 0
  · have h0 : 0 ≤ -(c + 1) := by omega
    have E := Lib.hid (show pickZ c n = -((c + 1).tmod n) by unfold pickZ; rw [if_pos h, ← Int.neg_tmod, Int.tmod_eq_emod_of_nonneg h0])
    go_enter Tryz.func23, Tryz.ntmps23
    go_wp2
    go_ret
    exact ⟨ret_int E.out.symm, rfl⟩
  · have h0 : 0 ≤ c := by omega
    have E := Lib.hid (show pickZ c n = c % n by unfold pickZ; rw [if_neg h])
    go_enter Tryz.func23, Tryz.ntmps23
    go_wp2
    go_ret
    exact ⟨ret_int E.out.symm, rfl⟩

/-- Arrays of k integers in a slice: the reading is a list of lists. -/
def ArrsA (k : Nat) (w : World) (a : Option Addr) (c : Nat) (L : List (List Int)) : Prop :=
  L.length ≤ c ∧ c ≤ maxLen ∧ (∀ y ∈ L, y.length = k ∧ ∀ x ∈ y, Fits x) ∧ ∀ i (h : i < L.length), ∃ b off : Nat, a = some ⟨b, off, none⟩ ∧ b < w.heap.size ∧ ∀ (j : Nat) (v : Int), L[i][j]? = some v → w.cell? ⟨b, off + i * k + j, none⟩ = some (.int .i64 v)
theorem ArrsA.below {k : Nat} {w w' : World} {a : Option Addr} {c : Nat} {L : List (List Int)} (h : ArrsA k w a c L) (hb : Below w.heap.size w w') : ArrsA k w' a c L := by
  refine ⟨h.1, h.2.1, h.2.2.1, fun i hi => ?_⟩
  obtain ⟨b, off, rfl, h1, h2⟩ := h.2.2.2 i hi
  exact ⟨b, off, rfl, Nat.lt_of_lt_of_le h1 hb.size, fun j v hv => (hb.cell (p := ⟨b, off + i * k + j, none⟩) h1).trans (h2 j v hv)⟩

/-! ### a flow that is built -/
structure Mk (B F : Nat) (q : FlowP) (W w : World) : Prop where
  srow : w.ownsRow B 55 7 (.slice q.sa q.P.length q.sc) q.P.length (stepRow q.P)
  wrow : w.ownsRow B 58 3 (.slice q.wa q.W.length q.wc) q.W.length (winRow q.W)
  lists : ∀ p ∈ q.P, p.own w B
  fb : w.heap[F]? = some (flowBox q)
  rb : w.heap[B]? = some (.cells #[.int .i64 0, .int .i64 0, .slice none 0 0, .slice none 0 0] 25)
  bel : Below B W w
  hF : B < F
theorem Mk.ok {B F : Nat} {q : FlowP} {W w : World} (h : Mk B F q W w) : q.ok w := ⟨stepsA_of h.srow h.lists, winsA_of h.wrow⟩
theorem Mk.size {B F : Nat} {q : FlowP} {W w : World} (h : Mk B F q W w) : B ≤ w.heap.size := Nat.le_of_lt (lt_of_block h.rb)
theorem Mk.below {B F : Nat} {q : FlowP} {W w w' : World} (h : Mk B F q W w) (hb : Below w.heap.size w w') : Mk B F q W w' :=
  ⟨own_below h.srow hb, own_below h.wrow hb, fun p hp => ⟨(h.lists p hp).1.below hb, (h.lists p hp).2.below hb⟩, (hb.block _ (lt_of_block h.fb)).trans h.fb, (hb.block _ (lt_of_block h.rb)).trans h.rb, h.bel.trans (hb.mono h.size), h.hF⟩
/-- Another block of the call's own is written; it is none of the two rows. -/
theorem Mk.other {B F : Nat} {q : FlowP} {W w : World} (h : Mk B F q W w) {b o : Nat} {cs : Array Value} {e : TypeId} (hb : w.heap[b]? = some (.cells cs e)) (he : e ≠ 25 ∧ e ≠ 3) (hB : B ≤ b)
    (hs : ∀ k, (Value.slice q.sa q.P.length q.sc).ownBlock = some k → k ≠ b) (hw : ∀ k, (Value.slice q.wa q.W.length q.wc).ownBlock = some k → k ≠ b) (u : Value) : Mk B F q W (w.setCell ⟨b, o, none⟩ u) := by
  have hg := grown_set (w := w) b o u
  have hr : ∀ k, (some b : Option Nat) = some k → ∃ cs e'', w.heap[k]? = some (.cells cs e'') ∧ e'' ≠ 3 := fun k hk => by injection hk with hk; subst hk; exact ⟨_, _, hb, he.2⟩
  have hk : ∀ {v : Value}, (∀ k, v.ownBlock = some k → k ≠ b) → v.ownBlock = none ∨ v.ownBlock ≠ some b := fun {v} h => by
    cases hv : v.ownBlock with
    | none => exact .inl rfl
    | some k => exact .inr (by intro e; injection e with e; exact h k hv e)
  refine ⟨h.srow.kept hg (hk hs), h.wrow.kept hg (hk hw), fun p hp => ⟨(h.lists p hp).1.kept hg hr, (h.lists p hp).2.kept hg hr⟩, ?_, ?_, h.bel.trans ((Below.refl _ _).setCell hB _), h.hF⟩
  rotate_left
  · rw [Below.heap_setCell _ _ _ _ (by
      intro e0; simp only at e0; subst e0
      rw [h.rb] at hb; injection hb with hb; injection hb with _ hb; exact he.1 hb.symm)]
    exact h.rb
  rw [Below.heap_setCell _ _ _ _ (by
    intro e0; simp only at e0; subst e0
    rw [h.fb] at hb; injection hb with hb; injection hb with _ hb; exact he.1 hb.symm)]
  exact h.fb
/-- While a step is filled. -/
structure MkS (B F : Nat) (q : FlowP) (W : World) (S : Nat) (cs : Array Value) (own : List (Value × List Int)) (w : World) : Prop where
  base : Mk B F q W w
  box : w.heap[S]? = some (.cells cs 55)
  sep : ∀ k, (Value.slice q.sa q.P.length q.sc).ownBlock = some k → k ≠ S
  sepw : ∀ k, (Value.slice q.wa q.W.length q.wc).ownBlock = some k → k ≠ S
  hS : B ≤ S
  own : ∀ x ∈ own, IntOwn w B x.1 x.2
theorem MkS.new {B F : Nat} {q : FlowP} {W w : World} (h : Mk B F q W w) (cs : Array Value) : MkS B F q W w.heap.size cs [] (w.alloc (.cells cs 55)) :=
  ⟨h.below (below_new _ _), heap_alloc_new _ _, fun k hk => Nat.ne_of_lt (h.srow.lt k hk).2, fun k hk => Nat.ne_of_lt (h.wrow.lt k hk).2, h.size, fun x hx => by cases hx⟩
theorem MkS.below {B F : Nat} {q : FlowP} {W : World} {S : Nat} {cs : Array Value} {own : List (Value × List Int)} {w w' : World} (h : MkS B F q W S cs own w) (hb : Below w.heap.size w w') : MkS B F q W S cs own w' :=
  ⟨h.base.below hb, (hb.block _ (lt_of_block h.box)).trans h.box, h.sep, h.sepw, h.hS, fun x hx => (h.own x hx).below hb⟩
theorem MkS.set {B F : Nat} {q : FlowP} {W : World} {S : Nat} {cs : Array Value} {own : List (Value × List Int)} {w : World} (h : MkS B F q W S cs own w) (j : Nat) (u : Value) : MkS B F q W S (cs.setIfInBounds j u) own (w.setCell ⟨S, j, none⟩ u) :=
  ⟨h.base.other h.box (by decide) h.hS h.sep h.sepw u, block_set h.box u, h.sep, h.sepw, h.hS,
    fun x hx => (h.own x hx).kept (grown_set (w := w) S j u) (fun k hk => by injection hk with hk; subst hk; exact ⟨_, _, h.box, by decide⟩)⟩
theorem MkS.add {B F : Nat} {q : FlowP} {W : World} {S : Nat} {cs : Array Value} {own : List (Value × List Int)} {w : World} (h : MkS B F q W S cs own w) {v : Value} {L : List Int} (hv : IntOwn w B v L) : MkS B F q W S cs ((v, L) :: own) w :=
  ⟨h.base, h.box, h.sep, h.sepw, h.hS, fun x hx => by rcases List.mem_cons.1 hx with rfl | hx; exact hv; exact h.own x hx⟩
/-- The step is appended. -/
theorem MkS.pushed {B F : Nat} {q : FlowP} {W : World} {S : Nat} {cs : Array Value} {own : List (Value × List Int)} {w w1 w2 : World} (h : MkS B F q W S cs own w) (hb : Below w.heap.size w w1) (p : StepP) (hp : p.own w B) {g cap : Nat}
    (hown : w2.ownsRow B 55 7 (.slice (some ⟨g, 0, none⟩) (q.P.length + 1) cap) (q.P.length + 1) (stepRow q.P ++ p.cells)) (hgrow : w1.grownBy w2 (Value.slice q.sa q.P.length q.sc).ownBlock) :
    w2.heap[F]? = some (flowBox q) ∧ Mk B F { q with P := q.P ++ [p], sa := some ⟨g, 0, none⟩, sc := cap } W (w2.setCell ⟨F, 2, none⟩ (.slice (some ⟨g, 0, none⟩) (q.P.length + 1) cap)) := by
  have h1 := (h.below hb).base
  have hp1 : p.own w1 B := ⟨hp.1.below hb, hp.2.below hb⟩
  have hr : ∀ e : TypeId, 55 ≠ e → ∀ k, (Value.slice q.sa q.P.length q.sc).ownBlock = some k → ∃ cs e', w1.heap[k]? = some (.cells cs e') ∧ e' ≠ e := fun e he k hk => by
    obtain ⟨cs, hcs⟩ := own_block h1.srow hk
    exact ⟨cs, _, hcs, he⟩
  have fb2 : w2.heap[F]? = some (flowBox q) := by
    rw [hgrow.block F (lt_of_block h1.fb) (fun e => by
      obtain ⟨cs, e', h3, h4⟩ := hr 25 (by decide) F e.symm
      rw [h1.fb] at h3; injection h3 with h3; injection h3 with _ h3; exact h4 h3.symm)]
    exact h1.fb
  have rb2 := (hgrow.block B (lt_of_block h1.rb) (fun e => by
      obtain ⟨cs, e', h3, h4⟩ := hr 25 (by decide) B e.symm
      rw [h1.rb] at h3; injection h3 with h3; injection h3 with _ h3; exact h4 h3.symm)).trans h1.rb
  have hset := grown_set (w := w2) F 2 (.slice (some ⟨g, 0, none⟩) (q.P.length + 1) cap)
  have hF2 : ∀ e : TypeId, 25 ≠ e → ∀ k, (some F : Option Nat) = some k → ∃ cs e', w2.heap[k]? = some (.cells cs e') ∧ e' ≠ e := fun e he k hk => by injection hk with hk; subst hk; exact ⟨_, _, fb2, he⟩
  have hlen : (q.P ++ [p]).length = q.P.length + 1 := by simp
  have own2 : ∀ {v : Value} {L : List Int}, IntOwn w1 B v L → IntOwn (w2.setCell ⟨F, 2, none⟩ (.slice (some ⟨g, 0, none⟩) (q.P.length + 1) cap)) B v L := fun h0 => (h0.kept hgrow (hr _ (by decide))).kept hset (hF2 _ (by decide))
  refine ⟨fb2, ⟨?_, own_kept (own_kept h1.wrow hgrow (hr _ (by decide))) hset (hF2 _ (by decide)), ?_, ?_, ?_, ?_, h1.hF⟩⟩
  · simp only [hlen, stepRow_snoc]; exact own_kept hown hset (hF2 _ (by decide))
  · intro x hx
    rcases List.mem_append.1 hx with hx | hx
    · exact ⟨own2 (h1.lists x hx).1, own2 (h1.lists x hx).2⟩
    · rw [List.mem_singleton] at hx; subst hx; exact ⟨own2 hp1.1, own2 hp1.2⟩
  · rw [block_set fb2]; simp [flowBox]
  · rw [Below.heap_setCell _ _ _ _ (by have := h1.hF; show B ≠ F; omega)]; exact rb2
  · exact (h1.bel.trans ((Below.refl B w1).grown hgrow h1.size (fun k hk => (h1.srow.lt k hk).1))).trans ((Below.refl _ _).setCell (Nat.le_of_lt h1.hF) _)
end Go.Proofs.YtcaclijkkbhfhaaGreatDoor
