/-
  What walks of layer 7 share: worlds, blocks, rows of the call's own; a list of bookings in memory; a calendar in memory.
-/
import Derived.Test.YtjdhjlhcdpekbaaBk
import Derived.WalkKit
import Derived.OwnWalk
import Derived.Outline
import Derived.Lib.Hide
import Derived.LoopTactic
import Derived.Deep.QuietTactic
import Derived.BigQuiet
import Derived.WalkSmall
import Derived.OneCell
namespace Go.Proofs.Ytjdhjlhcdpekbaa
open Go.RowKit

theorem ret_int {k : IntKind} {a b : Int} (h : a = b) : Ending.returned (.int k a) = .returned (.int k b) := by rw [h]
theorem ret_bool {a b : Bool} (h : a = b) : Ending.returned (.bool a) = .returned (.bool b) := by rw [h]
theorem below_step {w w1 w2 : World} (a : Below w.heap.size w w1) (b : Below w1.heap.size w1 w2) : Below w.heap.size w w2 := a.trans (b.mono a.size)
theorem below_new (w : World) (o : Obj) : Below w.heap.size w (w.alloc o) := (Below.refl _ _).alloc (Nat.le_refl _) _
theorem below_drewN {B : Nat} {a w : World} (h : Below B a w) (k : Nat) : Below B a (w.drewN k) := ⟨h.os, h.tape, h.output, h.size, h.block⟩
theorem bcell {W w1 : World} (hb : Below W.heap.size W w1) : (∀ b o, b < W.heap.size → w1.cell? ⟨b, o, none⟩ = W.cell? ⟨b, o, none⟩) ∧ (∀ b o, b < W.heap.size → w1.frozen? ⟨b, o, none⟩ = W.frozen? ⟨b, o, none⟩) :=
  ⟨fun b o h => hb.cell (p := ⟨b, o, none⟩) h, fun b o h => hb.frozen (p := ⟨b, o, none⟩) h⟩
theorem cell_below {w w' : World} (hb : Below w.heap.size w w') {a : Addr} {v : Value} (hc : w.cell? a = some v) : w'.cell? a = some v := (hb.cell (World.block_lt_of_cell? w a hc)).trans hc
/-- Within the bounds of an int. -/
abbrev Fits (n : Int) : Prop := -9223372036854775808 ≤ n ∧ n ≤ 9223372036854775807
theorem box_cell {w : World} {b : Nat} {cs : Array Value} {t : TypeId} (h : w.heap[b]? = some (.cells cs t)) (o : Nat) (v : Value) (hv : cs[o]? = some v) : w.cell? ⟨b, o, none⟩ = some v := by
  simp only [World.cell?, h]; exact hv
theorem box_fz {w : World} {b : Nat} {cs : Array Value} {t : TypeId} (h : w.heap[b]? = some (.cells cs t)) (o : Nat) : w.frozen? ⟨b, o, none⟩ = false := by simp [World.frozen?, h]
theorem block_set {w : World} {b o : Nat} {cs : Array Value} {t : TypeId} (h : w.heap[b]? = some (.cells cs t)) (u : Value) : (w.setCell ⟨b, o, none⟩ u).heap[b]? = some (.cells (cs.setIfInBounds o u) t) := by
  have hlt := lt_of_block h
  have h' : w.heap[b] = .cells cs t (0, 0) := by simpa [Array.getElem?_eq_getElem hlt] using h
  show (w.heap.modify b _)[b]? = _
  rw [Array.getElem?_eq_getElem (by simpa using hlt), Array.getElem_modify_self, h']
  rfl
theorem grown_set {w : World} (b o : Nat) (u : Value) : w.grownBy (w.setCell ⟨b, o, none⟩ u) (some b) :=
  ⟨rfl, rfl, rfl, by simp [World.setCell], fun k _ hr => Below.heap_setCell _ _ _ _ (by intro e; exact hr (by rw [e]))⟩
/-- The block of a row of the call's own. -/
theorem own_block {w : World} {base : Nat} {e : TypeId} {size : Nat} {v : Value} {n : Nat} {xs : List Value} (h : w.ownsRow base e size v n xs) {k : Nat} (hk : v.ownBlock = some k) : ∃ cs, w.heap[k]? = some (.cells cs e) := by
  rcases h.2 with ⟨rfl, _⟩ | ⟨g, cap, cur, rfl, _, hg, _⟩
  · simp [Value.ownBlock] at hk
  · simp only [Value.ownBlock, Option.some.injEq] at hk; subst hk; exact ⟨cur, hg⟩
theorem own_below {w w' : World} {base : Nat} {e : TypeId} {size : Nat} {v : Value} {n : Nat} {xs : List Value} (h : w.ownsRow base e size v n xs) (hb : Below w.heap.size w w') : w'.ownsRow base e size v n xs := by
  obtain ⟨h1, h2 | ⟨g, cap, cur, rfl, h2, h3, h4⟩⟩ := h
  · exact ⟨h1, .inl h2⟩
  · exact ⟨h1, .inr ⟨g, cap, cur, rfl, h2, by rw [hb.block g (lt_of_block h3)]; exact h3, h4⟩⟩
theorem own_slice {w : World} {base : Nat} {e : TypeId} {size : Nat} {v : Value} {n : Nat} {xs : List Value} (h : w.ownsRow base e size v n xs) : ∃ a c, v = .slice a n c ∧ n ≤ c ∧ c ≤ maxLen ∧ (0 < n → ∃ g, a = some ⟨g, 0, none⟩ ∧ g < w.heap.size ∧ ∀ (j : Nat) (u : Value), xs[j]? = some u → w.cell? ⟨g, 0 + j, none⟩ = some u) := by
  rcases h.2 with ⟨rfl, h0⟩ | ⟨g, cap, cur, rfl, h2, h3, h4, h5, h6, h7⟩
  · exact ⟨none, 0, by rw [h0], by omega, by decide, fun hn => by omega⟩
  · refine ⟨_, cap, rfl, h4, h5, fun _ => ⟨g, rfl, lt_of_block h3, fun j u hu => ?_⟩⟩
    have := h.cells (g := g) rfl j u hu
    cases j <;> simpa [Addr.add] using this

/-! ### what a call may have written -/
/-- New blocks, and writes to the blocks of S. -/
structure Ch (S : Nat → Prop) (w w' : World) : Prop where
  os : w'.os = w.os
  tape : w'.tape = w.tape
  output : w'.output = w.output
  size : w.heap.size ≤ w'.heap.size
  block : ∀ k, k < w.heap.size → ¬ S k → w'.heap[k]? = w.heap[k]?
theorem Ch.refl (S : Nat → Prop) (w : World) : Ch S w w := ⟨rfl, rfl, rfl, Nat.le_refl _, fun _ _ _ => rfl⟩
theorem Ch.ofBelow {S : Nat → Prop} {w w' : World} (h : Below w.heap.size w w') : Ch S w w' := ⟨h.os, h.tape, h.output, h.size, fun k hk _ => h.block k hk⟩
theorem Ch.grown {S : Nat → Prop} {w w' : World} {row : Option Nat} (h : w.grownBy w' row) (hr : ∀ k, row = some k → S k) : Ch S w w' := ⟨h.os, h.tape, h.output, h.size, fun k hk hs => h.block k hk (fun e => hs (hr k e.symm))⟩
theorem Ch.trans {S S' : Nat → Prop} {a b c : World} (h : Ch S a b) (k : Ch S' b c) (hs : ∀ i, i < a.heap.size → S' i → S i) : Ch S a c :=
  ⟨k.os.trans h.os, k.tape.trans h.tape, k.output.trans h.output, Nat.le_trans h.size k.size, fun i hi hn => (k.block i (Nat.lt_of_lt_of_le hi h.size) (fun e => hn (hs i hi e))).trans (h.block i hi hn)⟩
theorem Ch.mono {S S' : Nat → Prop} {a b : World} (h : Ch S a b) (hs : ∀ i, S i → S' i) : Ch S' a b := ⟨h.os, h.tape, h.output, h.size, fun i hi hn => h.block i hi (fun e => hn (hs i e))⟩
theorem Ch.below {S : Nat → Prop} {w w' : World} (h : Ch S w w') {B : Nat} (hB : B ≤ w.heap.size) (hS : ∀ k, S k → B ≤ k) : Below B w w' := ⟨h.os, h.tape, h.output, h.size, fun k hk => h.block k (by omega) (fun e => by have := hS k e; omega)⟩
theorem Ch.drewN {S : Nat → Prop} {w w' : World} (h : Ch S w w') (n : Nat) : Ch S w (w'.drewN n) := ⟨h.os, h.tape, h.output, h.size, h.block⟩

/-! ### bookings in memory -/
def bkCells (b : Kal.Bk) : List Value := [.int .i64 b.tool, .int .i64 b.s, .int .i64 b.e, .int .i64 b.o]
def bkRow (l : List Kal.Bk) : List Value := l.flatMap bkCells
abbrev bkV (b : Kal.Bk) : Value := .agg #[.int .i64 b.tool, .int .i64 b.s, .int .i64 b.e, .int .i64 b.o]
theorem bkRow_length (l : List Kal.Bk) : (bkRow l).length = l.length * 4 := by
  unfold bkRow; induction l with
  | nil => rfl
  | cons x l ih => rw [List.flatMap_cons, List.length_append, ih]; simp [bkCells]; omega
theorem bkRow_append (a b : List Kal.Bk) : bkRow (a ++ b) = bkRow a ++ bkRow b := by simp [bkRow]
theorem bkRow_snoc (l : List Kal.Bk) (b : Kal.Bk) : bkRow (l ++ [b]) = bkRow l ++ bkCells b := by simp [bkRow]
theorem flat_at {α : Type} (f : α → List Value) (k : Nat) (hk : ∀ x, (f x).length = k) : ∀ (L : List α) (i j : Nat) (hi : i < L.length), j < k → (L.flatMap f)[i * k + j]? = (f L[i])[j]?
  | x :: L, 0, j, hi, hj => by
    rw [List.flatMap_cons, Nat.zero_mul, Nat.zero_add, List.getElem?_append_left (by rw [hk]; exact hj)]; rfl
  | x :: L, i + 1, j, hi, hj => by
    rw [List.flatMap_cons, List.getElem?_append_right (by rw [hk, Nat.succ_mul]; omega), hk]
    have : (i + 1) * k + j - k = i * k + j := by rw [Nat.succ_mul]; omega
    rw [this]
    exact flat_at f k hk L i j (by simpa using hi) hj
theorem bkRow_at (l : List Kal.Bk) (i j : Nat) (hi : i < l.length) (hj : j < 4) : (bkRow l)[i * 4 + j]? = (bkCells l[i])[j]? := flat_at bkCells 4 (fun _ => rfl) l i j hi hj
theorem bkRow_take (l : List Kal.Bk) (k : Nat) : (bkRow l).take (k * 4) = bkRow (l.take k) := by
  by_cases h : k ≤ l.length
  · have e : bkRow l = bkRow (l.take k) ++ bkRow (l.drop k) := by rw [← bkRow_append, List.take_append_drop]
    rw [e, List.take_left' (by rw [bkRow_length, List.length_take]; omega)]
  · rw [List.take_of_length_le (by rw [bkRow_length]; omega), List.take_of_length_le (by omega)]
theorem bkRow_drop (l : List Kal.Bk) (k : Nat) : (bkRow l).drop (k * 4) = bkRow (l.drop k) := by
  by_cases h : k ≤ l.length
  · have e : bkRow l = bkRow (l.take k) ++ bkRow (l.drop k) := by rw [← bkRow_append, List.take_append_drop]
    rw [e, List.drop_left' (by rw [bkRow_length, List.length_take]; omega)]
  · rw [List.drop_of_length_le (by rw [bkRow_length]; omega), List.drop_of_length_le (by omega)]; rfl
theorem bkRow_one (u : Value) (l : List Kal.Bk) (h : u ∈ bkRow l) : u.oneCell' = true := by
  unfold bkRow at h
  obtain ⟨b, _, hu⟩ := List.mem_flatMap.1 h
  simp only [bkCells, List.mem_cons, List.not_mem_nil, or_false] at hu
  rcases hu with rfl | rfl | rfl | rfl <;> rfl
/-- A slice of bookings that reads as l. -/
def BkA (w : World) (a : Option Addr) (c : Nat) (l : List Kal.Bk) : Prop :=
  l.length ≤ c ∧ c ≤ maxLen ∧ ∀ i (h : i < l.length), ∃ b off : Nat, a = some ⟨b, off, none⟩ ∧ b < w.heap.size ∧ w.cell? ⟨b, off + i * 4, none⟩ = some (.int .i64 l[i].tool) ∧ w.cell? ⟨b, off + i * 4 + 1, none⟩ = some (.int .i64 l[i].s) ∧
    w.cell? ⟨b, off + i * 4 + 2, none⟩ = some (.int .i64 l[i].e) ∧ w.cell? ⟨b, off + i * 4 + 3, none⟩ = some (.int .i64 l[i].o)
theorem BkA.below {w w' : World} {a : Option Addr} {c : Nat} {l : List Kal.Bk} (h : BkA w a c l) (hb : Below w.heap.size w w') : BkA w' a c l := by
  refine ⟨h.1, h.2.1, fun i hi => ?_⟩
  obtain ⟨b, off, rfl, h1, h2, h3, h4, h5⟩ := h.2.2 i hi
  exact ⟨b, off, rfl, Nat.lt_of_lt_of_le h1 hb.size, cell_below hb h2, cell_below hb h3, cell_below hb h4, cell_below hb h5⟩
theorem BkA.ch {S : Nat → Prop} {w w' : World} {a : Option Addr} {c : Nat} {l : List Kal.Bk} (h : BkA w a c l) (hb : Ch S w w') (hS : ∀ x, a = some x → ¬ S x.block) : BkA w' a c l := by
  refine ⟨h.1, h.2.1, fun i hi => ?_⟩
  obtain ⟨b, off, rfl, h1, h2, h3, h4, h5⟩ := h.2.2 i hi
  have hk := hb.block b h1 (hS _ rfl)
  have cell : ∀ {o : Nat} {v : Value}, w.cell? ⟨b, o, none⟩ = some v → w'.cell? ⟨b, o, none⟩ = some v := fun {o v} hc => (World.cell?_of_block (a := ⟨b, o, none⟩) hk).trans hc
  exact ⟨b, off, rfl, Nat.lt_of_lt_of_le h1 hb.size, cell h2, cell h3, cell h4, cell h5⟩
theorem BkA.nil (w : World) : BkA w none 0 [] := ⟨Nat.le_refl _, by decide, fun i hi => by cases hi⟩
theorem BkA.at {w : World} {a : Option Addr} {c : Nat} {l : List Kal.Bk} (h : BkA w a c l) (h0 : 0 < l.length) : ∃ b off : Nat, a = some ⟨b, off, none⟩ ∧ b < w.heap.size ∧ ∀ i (h : i < l.length), w.cell? ⟨b, off + i * 4, none⟩ = some (.int .i64 l[i].tool) ∧ w.cell? ⟨b, off + i * 4 + 1, none⟩ = some (.int .i64 l[i].s) ∧
    w.cell? ⟨b, off + i * 4 + 2, none⟩ = some (.int .i64 l[i].e) ∧ w.cell? ⟨b, off + i * 4 + 3, none⟩ = some (.int .i64 l[i].o) := by
  obtain ⟨b, off, rfl, h1, -⟩ := h.2.2 0 h0
  refine ⟨b, off, rfl, h1, fun i hi => ?_⟩
  obtain ⟨b', off', e, _, h2⟩ := h.2.2 i hi
  injection e with e; injection e with e1 e2; subst e1; subst e2; exact h2
/-- A row of bookings that the call has made. -/
abbrev BkOwn (w : World) (B : Nat) (v : Value) (l : List Kal.Bk) : Prop := w.ownsRow B 36 4 v l.length (bkRow l)
theorem BkOwn.arg {w : World} {B : Nat} {v : Value} {l : List Kal.Bk} (h : BkOwn w B v l) : ∃ a c, v = .slice a l.length c ∧ BkA w a c l ∧ (∀ x, a = some x → v.ownBlock = some x.block) := by
  obtain ⟨a, c, rfl, h1, h2, h3⟩ := own_slice h
  refine ⟨a, c, rfl, ⟨h1, h2, fun i hi => ?_⟩, fun x hx => by subst hx; rfl⟩
  obtain ⟨g, rfl, hg, hc⟩ := h3 (by omega)
  have at_ : ∀ j v, j < 4 → (bkCells l[i])[j]? = some v → w.cell? ⟨g, 0 + (i * 4 + j), none⟩ = some v := fun j v hj hv => hc _ _ (by rw [bkRow_at l i j hi hj]; exact hv)
  have z : ∀ j, 0 + (i * 4 + j) = 0 + i * 4 + j := fun j => by omega
  exact ⟨g, 0, rfl, hg, by have := at_ 0 _ (by decide) rfl; simpa using this, by have := at_ 1 _ (by decide) rfl; rwa [z] at this, by have := at_ 2 _ (by decide) rfl; rwa [z] at this, by have := at_ 3 _ (by decide) rfl; rwa [z] at this⟩
theorem BkOwn.nil (w : World) (B : Nat) : BkOwn w B (.slice none 0 0) [] := World.ownsRow_nil _ _ _ _
theorem BkOwn.mono {w : World} {B B' : Nat} {v : Value} {l : List Kal.Bk} (h : BkOwn w B v l) (hB : B' ≤ B) : BkOwn w B' v l := by
  obtain ⟨h1, h2 | ⟨g, cap, cur, rfl, h2, h3, h4⟩⟩ := h
  · exact ⟨h1, .inl h2⟩
  · exact ⟨h1, .inr ⟨g, cap, cur, rfl, Nat.le_trans hB h2, h3, h4⟩⟩
theorem own_ch {S : Nat → Prop} {w w' : World} {base : Nat} {e : TypeId} {size : Nat} {v : Value} {n : Nat} {xs : List Value} (h : w.ownsRow base e size v n xs) (hc : Ch S w w') (hS : ∀ k, v.ownBlock = some k → ¬ S k) : w'.ownsRow base e size v n xs := by
  obtain ⟨h1, h2 | ⟨g, cap, cur, rfl, h2, h3, h4⟩⟩ := h
  · exact ⟨h1, .inl h2⟩
  · exact ⟨h1, .inr ⟨g, cap, cur, rfl, h2, by rw [hc.block g (lt_of_block h3) (hS g rfl)]; exact h3, h4⟩⟩
theorem BkOwn.snoc {w : World} {B : Nat} {v : Value} {l : List Kal.Bk} {b : Kal.Bk} (h : w.ownsRow B 36 4 v (l.length + 1) (bkRow l ++ bkCells b)) : BkOwn w B v (l ++ [b]) := by
  unfold BkOwn; rw [List.length_append, bkRow_snoc]; exact h
theorem info_booking : (Try.prog.info? 36).map (fun i => (i.zero, i.size, i.bytes)) = some (some (.agg #[.int .i64 0, .int .i64 0, .int .i64 0, .int .i64 0]), 4, 32) := by kernel_rfl

/-! ### a calendar in memory -/
structure CalP where
  C : Nat
  T : Nat
  V : Nat → Value
abbrev CalP.ptr (c : CalP) : Value := .pointer (some ⟨c.C, 0, none⟩)
def CalP.owns (c : CalP) (k : Nat) : Prop := k = c.C ∨ k = c.T ∨ ∃ i, i < 60 ∧ (c.V i).ownBlock = some k
def tabCells (V : Nat → Value) : Array Value := Array.ofFn (n := 60) fun i => V i.val
theorem tabCells_at (V : Nat → Value) (i : Nat) (h : i < 60) : (tabCells V)[i]? = some (V i) := by unfold tabCells; rw [Array.getElem?_ofFn, dif_pos h]
structure CalAt (B : Nat) (c : CalP) (K : Kal.Kal) (w : World) : Prop where
  box : w.heap[c.C]? = some (.cells #[.pointer (some ⟨c.T, 0, none⟩)] 101)
  tab : w.heap[c.T]? = some (.cells (tabCells c.V) 111)
  rows : ∀ i, i < 60 → BkOwn w B (c.V i) (K i)
  apart : ∀ i j k, i < 60 → j < 60 → (c.V i).ownBlock = some k → (c.V j).ownBlock = some k → i = j
  ok : Kal.Ok K
  lowC : B ≤ c.C
  lowT : B ≤ c.T
theorem CalAt.ne {B : Nat} {c : CalP} {K : Kal.Kal} {w : World} (h : CalAt B c K w) : c.C ≠ c.T := fun e => by
  have h1 := h.box; have h2 := h.tab
  rw [e, h2] at h1; injection h1 with h1; injection h1 with _ h1; exact absurd h1 (by decide)
theorem CalAt.row_ne {B : Nat} {c : CalP} {K : Kal.Kal} {w : World} (h : CalAt B c K w) {i k : Nat} (hi : i < 60) (hk : (c.V i).ownBlock = some k) : k ≠ c.C ∧ k ≠ c.T := by
  obtain ⟨cs, hcs⟩ := own_block (h.rows i hi) hk
  constructor
  · rintro rfl; have h1 := h.box; rw [hcs] at h1; injection h1 with h1; injection h1 with _ h1; exact absurd h1 (by decide)
  · rintro rfl; have h1 := h.tab; rw [hcs] at h1; injection h1 with h1; injection h1 with _ h1; exact absurd h1 (by decide)
theorem CalAt.lt {B : Nat} {c : CalP} {K : Kal.Kal} {w : World} (h : CalAt B c K w) : ∀ k, c.owns k → B ≤ k ∧ k < w.heap.size := by
  rintro k (rfl | rfl | ⟨i, hi, hk⟩)
  · exact ⟨h.lowC, lt_of_block h.box⟩
  · exact ⟨h.lowT, lt_of_block h.tab⟩
  · exact (h.rows i hi).lt k hk
theorem CalAt.ch {S : Nat → Prop} {B : Nat} {c : CalP} {K : Kal.Kal} {w w' : World} (h : CalAt B c K w) (hc : Ch S w w') (hS : ∀ k, c.owns k → ¬ S k) : CalAt B c K w' :=
  ⟨(hc.block _ (lt_of_block h.box) (hS _ (.inl rfl))).trans h.box, (hc.block _ (lt_of_block h.tab) (hS _ (.inr (.inl rfl)))).trans h.tab,
    fun i hi => own_ch (h.rows i hi) hc (fun k hk => hS k (.inr (.inr ⟨i, hi, hk⟩))), h.apart, h.ok, h.lowC, h.lowT⟩
theorem CalAt.below {B : Nat} {c : CalP} {K : Kal.Kal} {w w' : World} (h : CalAt B c K w) (hb : Below w.heap.size w w') : CalAt B c K w' :=
  h.ch (S := fun _ => False) (Ch.ofBelow hb) (fun _ _ h => h)
theorem CalAt.cells {B : Nat} {c : CalP} {K : Kal.Kal} {w : World} (h : CalAt B c K w) : w.cell? ⟨c.C, 0, none⟩ = some (.pointer (some ⟨c.T, 0, none⟩)) ∧ ∀ i, i < 60 → w.cell? ⟨c.T, i, none⟩ = some (c.V i) ∧ w.frozen? ⟨c.T, i, none⟩ = false :=
  ⟨box_cell h.box 0 _ rfl, fun i hi => ⟨box_cell h.tab i _ (tabCells_at _ _ hi), box_fz h.tab i⟩⟩
/-- What a call that changes the calendar leaves. -/
structure Moved (B : Nat) (c c' : CalP) (K' : Kal.Kal) (w w' : World) : Prop where
  at_ : CalAt B c' K' w'
  same : c'.C = c.C ∧ c'.T = c.T
  ch : Ch c.owns w w'
  owns : ∀ k, c'.owns k → c.owns k ∨ w.heap.size ≤ k
theorem Moved.refl {B : Nat} {c : CalP} {K : Kal.Kal} {w w' : World} (h : CalAt B c K w) (hb : Below w.heap.size w w') : Moved B c c K w w' := ⟨h.below hb, ⟨rfl, rfl⟩, Ch.ofBelow hb, fun _ h => .inl h⟩
theorem Moved.trans {B : Nat} {a b c : CalP} {K K' : Kal.Kal} {w1 w2 w3 : World} (h : Moved B a b K w1 w2) (k : Moved B b c K' w2 w3) : Moved B a c K' w1 w3 :=
  ⟨k.at_, ⟨k.same.1.trans h.same.1, k.same.2.trans h.same.2⟩, h.ch.trans k.ch (fun i hi hs => (h.owns i hs).resolve_right (by omega)), fun i hi => by
    rcases k.owns i hi with h1 | h1
    · exact h.owns i h1
    · exact .inr (Nat.le_trans h.ch.size h1)⟩
theorem Moved.step {B : Nat} {a b : CalP} {K : Kal.Kal} {w1 w2 w3 : World} (h : Moved B a b K w1 w2) (hb : Below w2.heap.size w2 w3) : Moved B a b K w1 w3 := h.trans (Moved.refl h.at_ hb)
end Go.Proofs.Ytjdhjlhcdpekbaa

