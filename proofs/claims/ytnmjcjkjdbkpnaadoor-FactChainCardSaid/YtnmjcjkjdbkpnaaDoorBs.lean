/-
  What walks of layer 15 share: worlds, blocks, rows of records; facts in memory.
-/
import Derived.Test.YtnmjcjkjdbkpnaaDoorFd
import Derived.Test.YtnmjcjkjdbkpnaaDoorChecked
import Derived.WalkKit
import Derived.OwnWalk
import Derived.Outline
import Derived.Lib.Hide
import Derived.LoopTactic
import Derived.Deep.QuietTactic
import Derived.BigQuiet
import Derived.WalkSmall
import Derived.OneCell
import Derived.Shelf.Abstract
import Derived.Deep.RegionHeld3
import Derived.Deep.LoopGhost
import Derived.Deep.RegionLaw
import Derived.Laws.IdiomStrings
import Derived.Maps.AppendAt
import Derived.Maps.OwnIn
import Derived.StillTailTactics
import Derived.Deep.AppendLies
import Derived.Deep.DeepCutAuto
import Derived.WalkMore
import Derived.Laws.AppendOwnNone
import Derived.Deep.RegionLawGrows
import Derived.BigRegion
import Derived.Lib.MinMax
import Derived.Deep.CutBlock
import Derived.Stop.RegionWithIn
import Derived.Sort.QuietIn
import Derived.Sort.CutIn
import Derived.Sort.BigQuietIn
import Derived.Sort.QuietThIn
import Derived.WalkSpells
import Derived.RangeFuncNested
import Derived.RangeFuncBound
import Derived.RangeFuncCalls
import Derived.RangeFuncLeaves
import Derived.RangeFuncBox
import Derived.Shelf.RegionOpen
import Derived.OwnWalkIn
import Derived.TacticsInMore
import Derived.LoopNIn
import Derived.LoopIn
namespace Go.Proofs.YtnmjcjkjdbkpnaaDoor
open Go.RowKit

theorem ret_int {k : IntKind} {a b : Int} (h : a = b) : Ending.returned (.int k a) = .returned (.int k b) := by rw [h]
theorem ret_bool {a b : Bool} (h : a = b) : Ending.returned (.bool a) = .returned (.bool b) := by rw [h]
theorem below_step {w w1 w2 : World} (a : Below w.heap.size w w1) (b : Below w1.heap.size w1 w2) : Below w.heap.size w w2 := a.trans (b.mono a.size)
theorem below_new (w : World) (o : Obj) : Below w.heap.size w (w.alloc o) := (Below.refl _ _).alloc (Nat.le_refl _) _
theorem below_drewN {B : Nat} {a w : World} (h : Below B a w) (k : Nat) : Below B a (w.drewN k) := ⟨h.os, h.tape, h.output, h.size, h.block⟩
theorem bcell {W w1 : World} (hb : Below W.heap.size W w1) : (∀ b o, b < W.heap.size → w1.cell? ⟨b, o, none⟩ = W.cell? ⟨b, o, none⟩) ∧ (∀ b o, b < W.heap.size → w1.frozen? ⟨b, o, none⟩ = W.frozen? ⟨b, o, none⟩) :=
  ⟨fun b o h => hb.cell (p := ⟨b, o, none⟩) h, fun b o h => hb.frozen (p := ⟨b, o, none⟩) h⟩
theorem cell_below {w w' : World} (hb : Below w.heap.size w w') {a : Addr} {v : Value} (hc : w.cell? a = some v) : w'.cell? a = some v := (hb.cell (World.block_lt_of_cell? w a hc)).trans hc
/-- Within the bounds of an int. -/
abbrev Fits (n : Int) : Prop := -9223372036854775808 ≤ n ∧ n ≤ 9223372036854775807
theorem box_cell {w : World} {b : Nat} {cs : Array Value} {t : TypeId} (h : w.heap[b]? = some (.cells cs t)) (o : Nat) (v : Value) (hv : cs[o]? = some v) : w.cell? ⟨b, o, none⟩ = some v := by
  simp only [World.cell?, h]; exact hv
theorem box_fz {w : World} {b : Nat} {cs : Array Value} {t : TypeId} (h : w.heap[b]? = some (.cells cs t)) (o : Nat) : w.frozen? ⟨b, o, none⟩ = false := by simp [World.frozen?, h]
theorem block_set {w : World} {b o : Nat} {cs : Array Value} {t : TypeId} (h : w.heap[b]? = some (.cells cs t)) (u : Value) : (w.setCell ⟨b, o, none⟩ u).heap[b]? = some (.cells (cs.setIfInBounds o u) t) := by
  have hlt := lt_of_block h
  have h' : w.heap[b] = .cells cs t (0, 0) := by simpa [Array.getElem?_eq_getElem hlt] using h
  show (w.heap.modify b _)[b]? = _
  rw [Array.getElem?_eq_getElem (by simpa using hlt), Array.getElem_modify_self, h']
  rfl
theorem grown_set {w : World} (b o : Nat) (u : Value) : w.grownBy (w.setCell ⟨b, o, none⟩ u) (some b) :=
  ⟨rfl, rfl, rfl, by simp [World.setCell], fun k _ hr => Below.heap_setCell _ _ _ _ (by intro e; exact hr (by rw [e]))⟩
/-- The block of a row of the call's own. -/
theorem own_block {w : World} {base : Nat} {e : TypeId} {size : Nat} {v : Value} {n : Nat} {xs : List Value} (h : w.ownsRow base e size v n xs) {k : Nat} (hk : v.ownBlock = some k) : ∃ cs, w.heap[k]? = some (.cells cs e) := by
  rcases h.2 with ⟨rfl, _⟩ | ⟨g, cap, cur, rfl, _, hg, _⟩
  · simp [Value.ownBlock] at hk
  · simp only [Value.ownBlock, Option.some.injEq] at hk; subst hk; exact ⟨cur, hg⟩
theorem own_below {w w' : World} {base : Nat} {e : TypeId} {size : Nat} {v : Value} {n : Nat} {xs : List Value} (h : w.ownsRow base e size v n xs) (hb : Below w.heap.size w w') : w'.ownsRow base e size v n xs := by
  obtain ⟨h1, h2 | ⟨g, cap, cur, rfl, h2, h3, h4⟩⟩ := h
  · exact ⟨h1, .inl h2⟩
  · exact ⟨h1, .inr ⟨g, cap, cur, rfl, h2, by rw [hb.block g (lt_of_block h3)]; exact h3, h4⟩⟩
theorem own_slice {w : World} {base : Nat} {e : TypeId} {size : Nat} {v : Value} {n : Nat} {xs : List Value} (h : w.ownsRow base e size v n xs) : ∃ a c, v = .slice a n c ∧ n ≤ c ∧ c ≤ maxLen ∧ (0 < n → ∃ g, a = some ⟨g, 0, none⟩ ∧ g < w.heap.size ∧ ∀ (j : Nat) (u : Value), xs[j]? = some u → w.cell? ⟨g, 0 + j, none⟩ = some u) := by
  rcases h.2 with ⟨rfl, h0⟩ | ⟨g, cap, cur, rfl, h2, h3, h4, h5, h6, h7⟩
  · exact ⟨none, 0, by rw [h0], by omega, by decide, fun hn => by omega⟩
  · refine ⟨_, cap, rfl, h4, h5, fun _ => ⟨g, rfl, lt_of_block h3, fun j u hu => ?_⟩⟩
    have := h.cells (g := g) rfl j u hu
    cases j <;> simpa [Addr.add] using this

/-! ### what a call may have written -/
/-- New blocks, and writes to the blocks of S. -/
structure Ch (S : Nat → Prop) (w w' : World) : Prop where
  os : w'.os = w.os
  tape : w'.tape = w.tape
  output : w'.output = w.output
  size : w.heap.size ≤ w'.heap.size
  block : ∀ k, k < w.heap.size → ¬ S k → w'.heap[k]? = w.heap[k]?
theorem Ch.refl (S : Nat → Prop) (w : World) : Ch S w w := ⟨rfl, rfl, rfl, Nat.le_refl _, fun _ _ _ => rfl⟩
theorem Ch.ofBelow {S : Nat → Prop} {w w' : World} (h : Below w.heap.size w w') : Ch S w w' := ⟨h.os, h.tape, h.output, h.size, fun k hk _ => h.block k hk⟩
theorem Ch.grown {S : Nat → Prop} {w w' : World} {row : Option Nat} (h : w.grownBy w' row) (hr : ∀ k, row = some k → S k) : Ch S w w' := ⟨h.os, h.tape, h.output, h.size, fun k hk hs => h.block k hk (fun e => hs (hr k e.symm))⟩
theorem Ch.trans {S S' : Nat → Prop} {a b c : World} (h : Ch S a b) (k : Ch S' b c) (hs : ∀ i, i < a.heap.size → S' i → S i) : Ch S a c :=
  ⟨k.os.trans h.os, k.tape.trans h.tape, k.output.trans h.output, Nat.le_trans h.size k.size, fun i hi hn => (k.block i (Nat.lt_of_lt_of_le hi h.size) (fun e => hn (hs i hi e))).trans (h.block i hi hn)⟩
theorem Ch.mono {S S' : Nat → Prop} {a b : World} (h : Ch S a b) (hs : ∀ i, S i → S' i) : Ch S' a b := ⟨h.os, h.tape, h.output, h.size, fun i hi hn => h.block i hi (fun e => hn (hs i e))⟩
theorem Ch.below {S : Nat → Prop} {w w' : World} (h : Ch S w w') {B : Nat} (hB : B ≤ w.heap.size) (hS : ∀ k, S k → B ≤ k) : Below B w w' := ⟨h.os, h.tape, h.output, h.size, fun k hk => h.block k (by omega) (fun e => by have := hS k e; omega)⟩
theorem Ch.drewN {S : Nat → Prop} {w w' : World} (h : Ch S w w') (n : Nat) : Ch S w (w'.drewN n) := ⟨h.os, h.tape, h.output, h.size, h.block⟩

theorem own_ch {S : Nat → Prop} {w w' : World} {base : Nat} {e : TypeId} {size : Nat} {v : Value} {n : Nat} {xs : List Value} (h : w.ownsRow base e size v n xs) (hc : Ch S w w') (hS : ∀ k, v.ownBlock = some k → ¬ S k) : w'.ownsRow base e size v n xs := by
  obtain ⟨h1, h2 | ⟨g, cap, cur, rfl, h2, h3, h4⟩⟩ := h
  · exact ⟨h1, .inl h2⟩
  · exact ⟨h1, .inr ⟨g, cap, cur, rfl, h2, by rw [hc.block g (lt_of_block h3) (hS g rfl)]; exact h3, h4⟩⟩
theorem flat_at {α : Type} (f : α → List Value) (k : Nat) (hk : ∀ x, (f x).length = k) : ∀ (L : List α) (i j : Nat) (hi : i < L.length), j < k → (L.flatMap f)[i * k + j]? = (f L[i])[j]?
  | x :: L, 0, j, hi, hj => by
    rw [List.flatMap_cons, Nat.zero_mul, Nat.zero_add, List.getElem?_append_left (by rw [hk]; exact hj)]; rfl
  | x :: L, i + 1, j, hi, hj => by
    rw [List.flatMap_cons, List.getElem?_append_right (by rw [hk, Nat.succ_mul]; omega), hk]
    have : (i + 1) * k + j - k = i * k + j := by rw [Nat.succ_mul]; omega
    rw [this]
    exact flat_at f k hk L i j (by simpa using hi) hj
/-! ### rows of records -/
/-- A slice of records, each of k cells. -/
def RowA {α : Type} (f : α → List Value) (k : Nat) (w : World) (a : Option Addr) (c : Nat) (L : List α) : Prop :=
  L.length ≤ c ∧ c ≤ maxLen ∧ ∀ i (h : i < L.length), ∃ b off : Nat, a = some ⟨b, off, none⟩ ∧ b < w.heap.size ∧ ∀ (j : Nat) (v : Value), (f L[i])[j]? = some v → w.cell? ⟨b, off + i * k + j, none⟩ = some v
theorem RowA.below {α : Type} {f : α → List Value} {k : Nat} {w w' : World} {a : Option Addr} {c : Nat} {L : List α} (h : RowA f k w a c L) (hb : Below w.heap.size w w') : RowA f k w' a c L := by
  refine ⟨h.1, h.2.1, fun i hi => ?_⟩
  obtain ⟨b, off, rfl, h1, h2⟩ := h.2.2 i hi
  exact ⟨b, off, rfl, Nat.lt_of_lt_of_le h1 hb.size, fun j v hv => cell_below hb (h2 j v hv)⟩
theorem RowA.ch {α : Type} {f : α → List Value} {k : Nat} {S : Nat → Prop} {w w' : World} {a : Option Addr} {c : Nat} {L : List α} (h : RowA f k w a c L) (hb : Ch S w w') (hS : ∀ x, a = some x → ¬ S x.block) : RowA f k w' a c L := by
  refine ⟨h.1, h.2.1, fun i hi => ?_⟩
  obtain ⟨b, off, rfl, h1, h2⟩ := h.2.2 i hi
  have hk := hb.block b h1 (hS _ rfl)
  exact ⟨b, off, rfl, Nat.lt_of_lt_of_le h1 hb.size, fun j v hv => (World.cell?_of_block (a := ⟨b, _, none⟩) hk).trans (h2 j v hv)⟩
theorem RowA.of_heap {α : Type} {f : α → List Value} {k : Nat} {w v : World} {a : Option Addr} {c : Nat} {L : List α} (h : RowA f k w a c L) (e : v.heap = w.heap) : RowA f k v a c L := by
  unfold RowA World.cell? at *; rw [e]; exact h
theorem RowA.nil {α : Type} (f : α → List Value) (k : Nat) (w : World) : RowA f k w none 0 ([] : List α) := ⟨Nat.le_refl _, by decide, fun i hi => by cases hi⟩
theorem RowA.at {α : Type} {f : α → List Value} {k : Nat} {w : World} {a : Option Addr} {c : Nat} {L : List α} (h : RowA f k w a c L) (h0 : 0 < L.length) : ∃ b off : Nat, a = some ⟨b, off, none⟩ ∧ b < w.heap.size ∧
    ∀ i (h : i < L.length) (j : Nat) (v : Value), (f L[i])[j]? = some v → w.cell? ⟨b, off + i * k + j, none⟩ = some v := by
  obtain ⟨b, off, rfl, h1, -⟩ := h.2.2 0 h0
  refine ⟨b, off, rfl, h1, fun i hi => ?_⟩
  obtain ⟨b', off', e, _, h2⟩ := h.2.2 i hi
  injection e with e; injection e with e1 e2; subst e1; subst e2; exact h2
theorem RowA.len {α : Type} {f : α → List Value} {k : Nat} {w : World} {a : Option Addr} {c : Nat} {L : List α} (h : RowA f k w a c L) : L.length ≤ maxLen := Nat.le_trans h.1 h.2.1
/-- A shorter slice of the same row. -/
theorem RowA.take {α : Type} {f : α → List Value} {k : Nat} {w : World} {a : Option Addr} {c : Nat} {L : List α} (h : RowA f k w a c L) (n : Nat) : RowA f k w a c (L.take n) := by
  refine ⟨Nat.le_trans (by simp; omega) h.1, h.2.1, fun i hi => ?_⟩
  have hi' : i < L.length := by simp at hi; omega
  obtain ⟨b, off, rfl, h1, h2⟩ := h.2.2 i hi'
  exact ⟨b, off, rfl, h1, fun j v hv => h2 j v (by rw [List.getElem_take] at hv; exact hv)⟩
/-- A row of records that the call has made. -/
def RowO {α : Type} (f : α → List Value) (t : TypeId) (k : Nat) (w : World) (B : Nat) (v : Value) (L : List α) : Prop := w.ownsRow B t k v L.length (L.flatMap f)
theorem RowO.nil {α : Type} (f : α → List Value) (t : TypeId) (k : Nat) (w : World) (B : Nat) : RowO f t k w B (.slice none 0 0) ([] : List α) := World.ownsRow_nil _ _ _ _
theorem RowO.below {α : Type} {f : α → List Value} {t : TypeId} {k : Nat} {w w' : World} {B : Nat} {v : Value} {L : List α} (h : RowO f t k w B v L) (hb : Below w.heap.size w w') : RowO f t k w' B v L := own_below h hb
theorem RowO.mono {α : Type} {f : α → List Value} {t : TypeId} {k : Nat} {w : World} {B B' : Nat} {v : Value} {L : List α} (h : RowO f t k w B v L) (hB : B' ≤ B) : RowO f t k w B' v L := by
  obtain ⟨h1, h2 | ⟨g, cap, cur, rfl, h2, h3, h4⟩⟩ := h
  · exact ⟨h1, .inl h2⟩
  · exact ⟨h1, .inr ⟨g, cap, cur, rfl, Nat.le_trans hB h2, h3, h4⟩⟩
theorem RowO.snoc {α : Type} {f : α → List Value} {t : TypeId} {k : Nat} {w : World} {B : Nat} {v : Value} {L : List α} {x : α} (h : w.ownsRow B t k v (L.length + 1) (L.flatMap f ++ f x)) : RowO f t k w B v (L ++ [x]) := by
  unfold RowO; rw [List.length_append, List.flatMap_append]; simpa using h
theorem RowO.arg {α : Type} {f : α → List Value} {t : TypeId} {k : Nat} (hf : ∀ x, (f x).length = k) {w : World} {B : Nat} {v : Value} {L : List α} (h : RowO f t k w B v L) :
    ∃ a c, v = .slice a L.length c ∧ RowA f k w a c L ∧ (∀ x, a = some x → v.ownBlock = some x.block) := by
  obtain ⟨a, c, rfl, h1, h2, h3⟩ := own_slice h
  refine ⟨a, c, rfl, ⟨h1, h2, fun i hi => ?_⟩, fun x hx => by subst hx; rfl⟩
  obtain ⟨g, rfl, hg, hc⟩ := h3 (by omega)
  refine ⟨g, 0, rfl, hg, fun j v hv => ?_⟩
  have hj : j < k := by rw [← hf L[i]]; exact (List.getElem?_eq_some_iff.1 hv).1
  have := hc (i * k + j) v (by rw [flat_at f k hf L i j hi hj]; exact hv)
  rwa [show 0 + (i * k + j) = 0 + i * k + j by omega] at this


theorem box_below {w w' : World} {X : Nat} {o : Obj} (h : w.heap[X]? = some o) (hb : Below w.heap.size w w') : w'.heap[X]? = some o := (hb.block X (lt_of_block h)).trans h
theorem RowO.ch {α : Type} {f : α → List Value} {t : TypeId} {k : Nat} {S : Nat → Prop} {w w' : World} {B : Nat} {v : Value} {L : List α} (h : RowO f t k w B v L) (hb : Ch S w w') (hS : ∀ i, v.ownBlock = some i → ¬ S i) : RowO f t k w' B v L := own_ch h hb hS
/-! ### facts, integers -/
open Fc
def intCells (d : Int) : List Value := [.int .i64 d]
def fldCells (x : Nat) : List Value := [.int .i64 (x : Int)]
abbrev factC (F : Fact) : Array Value := #[.int .i64 F.k, .int .i64 F.id, .int .i64 F.v, .int .i64 F.d, .bool F.gone, .int .i64 F.ti, .int .i64 F.un, .int .i64 F.w, .int .i64 F.ot, .int .i64 F.lo, .int .i64 F.pr, .int .i64 F.tl, .int .i64 F.ch, .int .i64 F.st, .int .i64 F.rc, .int .i64 F.rv, .int .i64 F.va, .int .i64 F.pa, .string F.tx]
abbrev factV (F : Fact) : Value := .agg #[.int .i64 F.k, .int .i64 F.id, .int .i64 F.v, .int .i64 F.d, .bool F.gone, .int .i64 F.ti, .int .i64 F.un, .int .i64 F.w, .int .i64 F.ot, .int .i64 F.lo, .int .i64 F.pr, .int .i64 F.tl, .int .i64 F.ch, .int .i64 F.st, .int .i64 F.rc, .int .i64 F.rv, .int .i64 F.va, .int .i64 F.pa, .string F.tx]
abbrev factObj (F : Fact) : Obj := .cells #[.int .i64 F.k, .int .i64 F.id, .int .i64 F.v, .int .i64 F.d, .bool F.gone, .int .i64 F.ti, .int .i64 F.un, .int .i64 F.w, .int .i64 F.ot, .int .i64 F.lo, .int .i64 F.pr, .int .i64 F.tl, .int .i64 F.ch, .int .i64 F.st, .int .i64 F.rc, .int .i64 F.rv, .int .i64 F.va, .int .i64 F.pa, .string F.tx] 23
/-- A slice of fields' numbers, of integers. -/
abbrev FldA (w : World) (a : Option Addr) (c : Nat) (l : List Nat) : Prop := RowA fldCells 1 w a c l
abbrev IntsA (w : World) (a : Option Addr) (c : Nat) (l : List Int) : Prop := RowA intCells 1 w a c l
abbrev IntsO (w : World) (B : Nat) (v : Value) (l : List Int) : Prop := RowO intCells 3 1 w B v l
theorem int_len (x : Int) : (intCells x).length = 1 := rfl
theorem fld_len (x : Nat) : (fldCells x).length = 1 := rfl
theorem ints_flat (l : List Int) : l.flatMap intCells = l.map (Value.int .i64) := by
  induction l with
  | nil => rfl
  | cons x l ih => rw [List.flatMap_cons, ih]; rfl
/-- A field's cell in a fact's box. -/
theorem fact_cell {w : World} {b : Nat} {F : Fact} (h : w.heap[b]? = some (factObj F)) {x : Nat} (hx : x < 14) : w.cell? ⟨b, cellOf x, none⟩ = some (.int .i64 (get F x)) := by
  refine box_cell h _ _ ?_
  match x, hx with
  | 0, _ | 1, _ | 2, _ | 3, _ | 4, _ | 5, _ | 6, _ | 7, _ | 8, _ | 9, _ | 10, _ | 11, _ | 12, _ | 13, _ => rfl
theorem fact_put {w : World} {b : Nat} {F : Fact} (h : w.heap[b]? = some (factObj F)) {x : Nat} (hx : x < 14) (n : Int) : (w.setCell ⟨b, cellOf x, none⟩ (.int .i64 n)).heap[b]? = some (factObj (set F n x)) := by
  have h2 := block_set h (o := cellOf x) (.int .i64 n)
  rw [h2]
  match x, hx with
  | 0, _ | 1, _ | 2, _ | 3, _ | 4, _ | 5, _ | 6, _ | 7, _ | 8, _ | 9, _ | 10, _ | 11, _ | 12, _ | 13, _ => rfl
theorem one_ch (w : World) (b o : Nat) (u : Value) : Ch (fun k => k = b) w (w.setCell ⟨b, o, none⟩ u) := Ch.grown (grown_set (w := w) b o u) (fun k hk => by injection hk with hk; exact hk.symm)
end Go.Proofs.YtnmjcjkjdbkpnaaDoor
