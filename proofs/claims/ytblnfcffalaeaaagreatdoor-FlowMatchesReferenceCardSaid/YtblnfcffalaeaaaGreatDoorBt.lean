/-
  What bent holds while it copies a flow.
-/
import Derived.Test.YtblnfcffalaeaaaGreatDoorCopy
import Derived.Test.YtblnfcffalaeaaaGreatDoorDistW
import Derived.Deep.LoopGhost
import Derived.Deep.DeepCutAuto
import Derived.Deep.RegionLawGrows
import Derived.Deep.RegionLaw
import Derived.Deep.RegionHeld3
namespace Go.Proofs.YtblnfcffalaeaaaGreatDoor
open Go.RowKit Go.Shelf

/-- A list of steps that the call makes: beside the boxes of the flow, of the three integers, of the result. -/
structure Bt (B : Nat) (q : FlowP) (h0 h1 h2 : Int) (a : Option Addr) (c : Nat) (P : List StepP) (W w : World) : Prop where
  srow : w.ownsRow B 55 7 (.slice a P.length c) P.length (stepRow P)
  lists : ∀ p ∈ P, p.own w B
  fb : w.heap[B]? = some (flowBox q)
  hb : w.heap[B + 1]? = some (.cells #[.int .i64 h0, .int .i64 h1, .int .i64 h2] 28)
  rb : w.heap[B + 2]? = some (.cells #[.int .i64 0, .int .i64 0, .slice none 0 0, .slice none 0 0] 25)
  bel : Below B W w
theorem Bt.size {B : Nat} {q : FlowP} {h0 h1 h2 : Int} {a : Option Addr} {c : Nat} {P : List StepP} {W w : World} (h : Bt B q h0 h1 h2 a c P W w) : B + 2 < w.heap.size := lt_of_block h.rb
theorem Bt.below {B : Nat} {q : FlowP} {h0 h1 h2 : Int} {a : Option Addr} {c : Nat} {P : List StepP} {W w w' : World} (h : Bt B q h0 h1 h2 a c P W w) (hb : Below w.heap.size w w') : Bt B q h0 h1 h2 a c P W w' :=
  ⟨own_below h.srow hb, fun p hp => ⟨(h.lists p hp).1.below hb, (h.lists p hp).2.below hb⟩, (hb.block _ (lt_of_block h.fb)).trans h.fb, (hb.block _ (lt_of_block h.hb)).trans h.hb, (hb.block _ (lt_of_block h.rb)).trans h.rb, h.bel.trans (hb.mono (Nat.le_of_lt (Nat.lt_of_le_of_lt (Nat.le_add_right _ _) h.size)))⟩
/-- A list that is appended to: the block that grows is a row of steps. -/
theorem Bt.pushed {B : Nat} {q : FlowP} {h0 h1 h2 : Int} {a : Option Addr} {c : Nat} {P : List StepP} {W w w2 : World} (h : Bt B q h0 h1 h2 a c P W w) (p : StepP) (hp : p.own w B) {g cap : Nat}
    (hown : w2.ownsRow B 55 7 (.slice (some ⟨g, 0, none⟩) (P.length + 1) cap) (P.length + 1) (stepRow P ++ p.cells)) (hgrow : w.grownBy w2 (Value.slice a P.length c).ownBlock) :
    Bt B q h0 h1 h2 (some ⟨g, 0, none⟩) cap (P ++ [p]) W w2 := by
  have hr : ∀ e : TypeId, 55 ≠ e → ∀ k, (Value.slice a P.length c).ownBlock = some k → ∃ cs e', w.heap[k]? = some (.cells cs e') ∧ e' ≠ e := fun e he k hk => by
    obtain ⟨cs, hcs⟩ := own_block h.srow hk
    exact ⟨cs, _, hcs, he⟩
  have keep : ∀ {b : Nat} {cs : Array Value} {e : TypeId}, 55 ≠ e → w.heap[b]? = some (.cells cs e) → w2.heap[b]? = some (.cells cs e) := fun {b cs e} he hbk => by
    rw [hgrow.block b (lt_of_block hbk) (fun e0 => by
      obtain ⟨cs, e', h3, h4⟩ := hr e he b e0.symm
      rw [hbk] at h3; injection h3 with h3; injection h3 with _ h3; exact h4 h3.symm)]
    exact hbk
  have hlen : (P ++ [p]).length = P.length + 1 := by simp
  have own2 : ∀ {v : Value} {L : List Int}, IntOwn w B v L → IntOwn w2 B v L := fun h0 => h0.kept hgrow (hr _ (by decide))
  refine ⟨by simp only [hlen, stepRow_snoc]; exact hown, fun x hx => ?_, keep (by decide) h.fb, keep (by decide) h.hb, keep (by decide) h.rb, h.bel.trans ((Below.refl B w).grown hgrow (Nat.le_of_lt (Nat.lt_of_le_of_lt (Nat.le_add_right _ _) h.size)) (fun k hk => (h.srow.lt k hk).1))⟩
  rcases List.mem_append.1 hx with hx | hx
  · exact ⟨own2 (h.lists x hx).1, own2 (h.lists x hx).2⟩
  · rw [List.mem_singleton] at hx; subst hx; exact ⟨own2 hp.1, own2 hp.2⟩
/-- A step's box is written; it is none of the list's blocks. -/
theorem Bt.other {B : Nat} {q : FlowP} {h0 h1 h2 : Int} {a : Option Addr} {c : Nat} {P : List StepP} {W w : World} (h : Bt B q h0 h1 h2 a c P W w) {b o : Nat} {cs : Array Value} (hb : w.heap[b]? = some (.cells cs 55)) (hB : B ≤ b)
    (hs : ∀ k, (Value.slice a P.length c).ownBlock = some k → k ≠ b) (u : Value) : Bt B q h0 h1 h2 a c P W (w.setCell ⟨b, o, none⟩ u) := by
  have hg := grown_set (w := w) b o u
  have hr : ∀ k, (some b : Option Nat) = some k → ∃ cs e'', w.heap[k]? = some (.cells cs e'') ∧ e'' ≠ 3 := fun k hk => by injection hk with hk; subst hk; exact ⟨_, _, hb, by decide⟩
  have keep : ∀ {k : Nat} {cs : Array Value} {e : TypeId}, 55 ≠ e → w.heap[k]? = some (.cells cs e) → (w.setCell ⟨b, o, none⟩ u).heap[k]? = some (.cells cs e) := fun {k cs e} he hk => by
    rw [Below.heap_setCell _ _ _ _ (by
      intro e0; simp only at e0; subst e0
      rw [hb] at hk; injection hk with hk; injection hk with _ hk; exact he hk)]
    exact hk
  refine ⟨h.srow.kept hg ?_, fun p hp => ⟨(h.lists p hp).1.kept hg hr, (h.lists p hp).2.kept hg hr⟩, keep (by decide) h.fb, keep (by decide) h.hb, keep (by decide) h.rb, h.bel.trans ((Below.refl B w).setCell (p := ⟨b, o, none⟩) hB u)⟩
  cases hv : (Value.slice a P.length c).ownBlock with
  | none => exact .inl rfl
  | some k => exact .inr (by intro e; injection e with e; exact hs k hv e)
/-- While a step is copied. -/
structure BtS (B : Nat) (q : FlowP) (h0 h1 h2 : Int) (a : Option Addr) (c : Nat) (P : List StepP) (W : World) (S : Nat) (cs : Array Value) (own : List (Value × List Int)) (w : World) : Prop where
  base : Bt B q h0 h1 h2 a c P W w
  box : w.heap[S]? = some (.cells cs 55)
  sep : ∀ k, (Value.slice a P.length c).ownBlock = some k → k ≠ S
  hS : B ≤ S
  own : ∀ x ∈ own, IntOwn w B x.1 x.2
theorem BtS.new {B : Nat} {q : FlowP} {h0 h1 h2 : Int} {a : Option Addr} {c : Nat} {P : List StepP} {W w : World} (h : Bt B q h0 h1 h2 a c P W w) (cs : Array Value) : BtS B q h0 h1 h2 a c P W w.heap.size cs [] (w.alloc (.cells cs 55)) :=
  ⟨h.below (below_new _ _), heap_alloc_new _ _, fun k hk => Nat.ne_of_lt (h.srow.lt k hk).2, by have := h.size; omega, fun x hx => by cases hx⟩
theorem BtS.below {B : Nat} {q : FlowP} {h0 h1 h2 : Int} {a : Option Addr} {c : Nat} {P : List StepP} {W : World} {S : Nat} {cs : Array Value} {own : List (Value × List Int)} {w w' : World} (h : BtS B q h0 h1 h2 a c P W S cs own w) (hb : Below w.heap.size w w') : BtS B q h0 h1 h2 a c P W S cs own w' :=
  ⟨h.base.below hb, (hb.block _ (lt_of_block h.box)).trans h.box, h.sep, h.hS, fun x hx => (h.own x hx).below hb⟩
theorem BtS.set {B : Nat} {q : FlowP} {h0 h1 h2 : Int} {a : Option Addr} {c : Nat} {P : List StepP} {W : World} {S : Nat} {cs : Array Value} {own : List (Value × List Int)} {w : World} (h : BtS B q h0 h1 h2 a c P W S cs own w) (j : Nat) (u : Value) : BtS B q h0 h1 h2 a c P W S (cs.setIfInBounds j u) own (w.setCell ⟨S, j, none⟩ u) :=
  ⟨h.base.other h.box h.hS h.sep u, block_set h.box u, h.sep, h.hS,
    fun x hx => (h.own x hx).kept (grown_set (w := w) S j u) (fun k hk => by injection hk with hk; subst hk; exact ⟨_, _, h.box, by decide⟩)⟩
theorem BtS.add {B : Nat} {q : FlowP} {h0 h1 h2 : Int} {a : Option Addr} {c : Nat} {P : List StepP} {W : World} {S : Nat} {cs : Array Value} {own : List (Value × List Int)} {w : World} (h : BtS B q h0 h1 h2 a c P W S cs own w) {v : Value} {L : List Int} (hv : IntOwn w B v L) : BtS B q h0 h1 h2 a c P W S cs ((v, L) :: own) w :=
  ⟨h.base, h.box, h.sep, h.hS, fun x hx => by rcases List.mem_cons.1 hx with rfl | hx; exact hv; exact h.own x hx⟩
end Go.Proofs.YtblnfcffalaeaaaGreatDoor
