/-
  Bookings on paper: the list of a tool by ascending starts, where a booking is put in, what is busy, the first free time.
  What walks of layer 7 share: worlds, blocks, rows of the call's own; a list of bookings in memory; a calendar in memory.
  Contracts of the small functions: isNil, isTool, isValid, list, the reference's Valid, the two picks.
-/
import Derived.Test.YtihohjgjklcnlaaDoorChecked
import Derived.WalkKit
import Derived.OwnWalk
import Derived.Outline
import Derived.Lib.Hide
import Derived.LoopTactic
import Derived.Deep.QuietTactic
import Derived.BigQuiet
import Derived.WalkSmall
import Derived.OneCell
namespace Go.Proofs.YtihohjgjklcnlaaDoor.Kal

structure Bk where
  tool : Int
  s : Int
  e : Int
  o : Int
  deriving DecidableEq
def isTool (t : Int) : Bool := decide (0 ≤ t) && decide (t < 60)
def okB (b : Bk) : Bool := isTool b.tool && decide (0 ≤ b.s) && decide (b.s < b.e) && decide (b.e ≤ 1000000) && decide (1 ≤ b.o) && decide (b.o ≤ 1000000)
theorem okB_iff {b : Bk} : okB b = true ↔ (0 ≤ b.tool ∧ b.tool < 60) ∧ 0 ≤ b.s ∧ b.s < b.e ∧ b.e ≤ 1000000 ∧ 1 ≤ b.o ∧ b.o ≤ 1000000 := by
  unfold okB isTool; simp only [Bool.and_eq_true, decide_eq_true_eq]
  constructor
  · rintro ⟨⟨⟨⟨⟨h1, h2⟩, h3⟩, h4⟩, h5⟩, h6⟩; exact ⟨h1, h2, h3, h4, h5, h6⟩
  · rintro ⟨h1, h2, h3, h4, h5, h6⟩; exact ⟨⟨⟨⟨⟨h1, h2⟩, h3⟩, h4⟩, h5⟩, h6⟩
/-- The bookings of a tool: one behind the other. -/
def Srt (l : List Bk) : Prop := l.Pairwise (fun a b => a.e ≤ b.s) ∧ ∀ b ∈ l, b.s < b.e
theorem Srt.nil : Srt [] := ⟨List.Pairwise.nil, fun b hb => by cases hb⟩
theorem Srt.tail {x : Bk} {l : List Bk} (h : Srt (x :: l)) : Srt l := ⟨(List.pairwise_cons.1 h.1).2, fun b hb => h.2 b (List.mem_cons_of_mem _ hb)⟩
theorem Srt.head {x : Bk} {l : List Bk} (h : Srt (x :: l)) : x.s < x.e ∧ ∀ b ∈ l, x.e ≤ b.s ∧ b.s < b.e := ⟨h.2 x (by simp), fun b hb => ⟨(List.pairwise_cons.1 h.1).1 b hb, h.2 b (List.mem_cons_of_mem _ hb)⟩⟩
theorem Srt.cons {x : Bk} {l : List Bk} (h : Srt l) (h1 : x.s < x.e) (h2 : ∀ b ∈ l, x.e ≤ b.s) : Srt (x :: l) :=
  ⟨List.pairwise_cons.2 ⟨h2, h.1⟩, fun b hb => by rcases List.mem_cons.1 hb with rfl | hb; exact h1; exact h.2 b hb⟩
theorem Srt.filter {l : List Bk} (h : Srt l) (p : Bk → Bool) : Srt (l.filter p) := ⟨h.1.filter p, fun b hb => h.2 b (List.mem_filter.1 hb).1⟩
theorem Srt.length_le : ∀ {l : List Bk} {t m : Int}, Srt l → (∀ b ∈ l, t ≤ b.s ∧ b.e ≤ m) → t ≤ m → (l.length : Int) ≤ m - t
  | [], t, m, _, _, h => by simp; omega
  | x :: l, t, m, hs, hb, _ => by
    have h1 := hb x (by simp)
    have h2 := hs.head
    have := Srt.length_le (t := x.e) (m := m) hs.tail (fun b hb' => ⟨(h2.2 b hb').1, (hb b (by simp [hb'])).2⟩) h1.2
    simp only [List.length_cons]; omega

/-- How many bookings end at a time or ahead of it. -/
def fb (l : List Bk) (t : Int) : Nat := l.countP (fun b => !decide (t < b.e))
theorem fb_le (l : List Bk) (t : Int) : fb l t ≤ l.length := List.countP_le_length
theorem fb_zero {l : List Bk} {t : Int} (h : ∀ b ∈ l, t < b.e) : fb l t = 0 := by
  unfold fb; rw [List.countP_eq_zero]; intro b hb; simp [h b hb]
theorem fb_hit {x : Bk} {l : List Bk} {t : Int} (hs : Srt (x :: l)) (h : t < x.e) : fb (x :: l) t = 0 :=
  fb_zero (fun b hb => by
    rcases List.mem_cons.1 hb with rfl | hb
    · exact h
    · have := (hs.head).2 b hb; omega)
theorem fb_past {x : Bk} {l : List Bk} {t : Int} (h : ¬ t < x.e) : fb (x :: l) t = fb l t + 1 := by
  unfold fb; rw [List.countP_cons_of_pos (by simpa using h)]
theorem fb_split : ∀ {l : List Bk} {t : Int}, Srt l → (∀ b ∈ l.take (fb l t), b.e ≤ t) ∧ ∀ b ∈ l.drop (fb l t), t < b.e
  | [], t, _ => ⟨fun b hb => by simp at hb, fun b hb => by simp at hb⟩
  | x :: l, t, hs => by
    by_cases h : t < x.e
    · rw [fb_hit hs h]
      refine ⟨fun b hb => by simp at hb, fun b hb => ?_⟩
      rcases List.mem_cons.1 hb with rfl | hb
      · exact h
      · have := (hs.head).2 b hb; omega
    · rw [fb_past h]
      obtain ⟨i1, i2⟩ := fb_split (t := t) hs.tail
      refine ⟨fun b hb => ?_, fun b hb => i2 b (by simpa using hb)⟩
      rw [List.take_succ_cons] at hb
      rcases List.mem_cons.1 hb with rfl | hb
      · omega
      · exact i1 b hb
theorem fb_at {l : List Bk} {t : Int} (hs : Srt l) (i : Nat) (h : i < l.length) : decide (t < l[i].e) = decide (fb l t ≤ i) := by
  obtain ⟨h1, h2⟩ := fb_split (t := t) hs
  rw [decide_eq_decide]
  constructor
  · intro hlt
    by_cases hi : fb l t ≤ i
    · exact hi
    · have := h1 l[i] (by
        rw [List.mem_take_iff_getElem]
        exact ⟨i, by omega, rfl⟩)
      omega
  · intro hi
    refine h2 _ ?_
    rw [List.mem_drop_iff_getElem]
    exact ⟨i - fb l t, by omega, by simp [show fb l t + (i - fb l t) = i by omega]⟩
/-- A booking is put in at its place. -/
def ins (l : List Bk) (b : Bk) : List Bk := l.take (fb l b.s) ++ b :: l.drop (fb l b.s)
theorem mem_ins {l : List Bk} {b x : Bk} : x ∈ ins l b ↔ x = b ∨ x ∈ l := by
  unfold ins
  have h : x ∈ l ↔ x ∈ l.take (fb l b.s) ∨ x ∈ l.drop (fb l b.s) := by rw [← List.mem_append, List.take_append_drop]
  rw [h]; simp only [List.mem_append, List.mem_cons]
  constructor
  · rintro (h | h | h)
    · exact .inr (.inl h)
    · exact .inl h
    · exact .inr (.inr h)
  · rintro (h | h | h)
    · exact .inr (.inl h)
    · exact .inl h
    · exact .inr (.inr h)
theorem ins_len (l : List Bk) (b : Bk) : (ins l b).length = l.length + 1 := by
  have := fb_le l b.s
  unfold ins; simp; omega
def hits (b : Bk) (s e : Int) : Bool := decide (b.s < e) && decide (s < b.e)
def anyHits (l : List Bk) (s e : Int) : Bool := l.any (fun b => hits b s e)
theorem anyHits_false {l : List Bk} {s e : Int} : anyHits l s e = false ↔ ∀ b ∈ l, ¬ (b.s < e ∧ s < b.e) := by
  unfold anyHits hits; rw [List.any_eq_false]; simp
theorem anyHits_true {l : List Bk} {s e : Int} : anyHits l s e = true ↔ ∃ b ∈ l, b.s < e ∧ s < b.e := by
  unfold anyHits hits; rw [List.any_eq_true]; simp
def busy (l : List Bk) (s e : Int) : Bool := decide (s < e) && anyHits l s e
/-- What the program looks at: the first booking that ends behind the start. -/
def nextB (o : Option Bk) (e : Int) : Bool := match o with | some b => decide (b.s < e) | none => false
theorem busy_next {l : List Bk} {s e : Int} (hs : Srt l) : anyHits l s e = nextB l[fb l s]? e := by
  obtain ⟨h1, h2⟩ := fb_split (t := s) hs
  unfold nextB
  cases h : l[fb l s]? with
  | none =>
    have hlen := List.getElem?_eq_none_iff.1 h
    simp only
    rw [anyHits_false]
    intro b hb hh
    have := h1 b (by rw [List.take_of_length_le hlen]; exact hb)
    omega
  | some x =>
    obtain ⟨hlt, hx⟩ := List.getElem?_eq_some_iff.1 h
    simp only
    by_cases hxe : x.s < e
    · rw [anyHits_true.2 ⟨x, by rw [← hx]; exact List.getElem_mem hlt, hxe, h2 x (by rw [List.drop_eq_getElem_cons hlt, hx]; simp)⟩]
      simp [hxe]
    · have : anyHits l s e = false := by
        rw [anyHits_false]
        rintro b hb ⟨hb1, hb2⟩
        rw [← List.take_append_drop (fb l s) l] at hb
        rcases List.mem_append.1 hb with hb | hb
        · have := h1 b hb; omega
        · rw [List.drop_eq_getElem_cons hlt, hx] at hb
          rcases List.mem_cons.1 hb with rfl | hb
          · exact hxe hb1
          · have hp : (x :: l.drop (fb l s + 1)).Pairwise (fun a b => a.e ≤ b.s) := by
              have := hs.1.sublist (List.drop_sublist (fb l s) l)
              rwa [List.drop_eq_getElem_cons hlt, hx] at this
            have h3 := (List.pairwise_cons.1 hp).1 b hb
            have h4 := hs.2 x (by rw [← hx]; exact List.getElem_mem hlt)
            omega
      rw [this]; simp [hxe]
theorem Srt.ins {l : List Bk} {b : Bk} (hs : Srt l) (hb : b.s < b.e) (hf : anyHits l b.s b.e = false) : Srt (ins l b) := by
  obtain ⟨h1, h2⟩ := fb_split (t := b.s) hs
  rw [anyHits_false] at hf
  have hsub : ∀ x, x ∈ l.drop (fb l b.s) → x ∈ l := fun x hx => List.mem_of_mem_drop hx
  refine ⟨?_, fun x hx => ?_⟩
  · unfold Kal.ins
    rw [List.pairwise_append]
    refine ⟨hs.1.sublist (List.take_sublist _ _), List.pairwise_cons.2 ⟨fun x hx => ?_, hs.1.sublist (List.drop_sublist _ _)⟩, fun x hx y hy => ?_⟩
    · have a := h2 x hx
      have := hf x (hsub x hx)
      omega
    · rcases List.mem_cons.1 hy with rfl | hy
      · exact h1 x hx
      · have hp := hs.1
        rw [← List.take_append_drop (fb l b.s) l, List.pairwise_append] at hp
        exact hp.2.2 x hx y hy
  · rcases mem_ins.1 hx with rfl | hx
    · exact hb
    · exact hs.2 x hx

/-! ### the gaps, and the first free time -/
def gapsF : Int → List Bk → List (Int × Int)
  | t, [] => if t < 1000000 then [(t, 1000000)] else []
  | t, b :: l => (if t < b.s then [(t, b.s)] else []) ++ gapsF b.e l
def wide (n : Int) (g : Int × Int) : Bool := decide (n ≤ g.2 - g.1)
def first (l : List Bk) (t n : Int) : Option Int := ((gapsF t (l.drop (fb l t))).find? (wide n)).map (·.1)
/-- t is the first free time from f on, for a length n; or there is none. -/
def IsFirst (l : List Bk) (f n : Int) : Option Int → Prop
  | some t => f ≤ t ∧ t + n ≤ 1000000 ∧ anyHits l t (t + n) = false ∧ ∀ s, f ≤ s → s < t → anyHits l s (s + n) = true
  | none => ∀ s, f ≤ s → s + n ≤ 1000000 → anyHits l s (s + n) = true
theorem IsFirst.unique {l : List Bk} {f n : Int} {a b : Option Int} (h1 : IsFirst l f n a) (h2 : IsFirst l f n b) : a = b := by
  cases a with
  | none =>
    cases b with
    | none => rfl
    | some t => have := h1 t h2.1 h2.2.1; rw [h2.2.2.1] at this; cases this
  | some t =>
    cases b with
    | none => have := h2 t h1.1 h1.2.1; rw [h1.2.2.1] at this; cases this
    | some u =>
      obtain ⟨a1, a2, a3, a4⟩ := h1
      obtain ⟨b1, b2, b3, b4⟩ := h2
      rcases Int.lt_trichotomy t u with h | h | h
      · have := b4 t a1 h; rw [a3] at this; cases this
      · rw [h]
      · have := a4 u b1 h; rw [b3] at this; cases this
theorem gapsF_first : ∀ {l : List Bk} {t n : Int}, Srt l → (∀ b ∈ l, t < b.e ∧ b.e ≤ 1000000) → 1 ≤ n → IsFirst l t n (((gapsF t l).find? (wide n)).map (·.1))
  | [], t, n, _, _, hn => by
    unfold gapsF
    split
    · rename_i ht
      by_cases hw : n ≤ 1000000 - t
      · have : wide n (t, 1000000) = true := by unfold wide; simpa using hw
        rw [List.find?_cons_of_pos this]
        exact ⟨Int.le_refl _, by simp only; omega, rfl, fun s h1 h2 => by simp only at h2; omega⟩
      · have : ¬ wide n (t, 1000000) = true := by unfold wide; simpa using hw
        rw [List.find?_cons_of_neg this]
        intro s h1 h2; omega
    · intro s h1 h2; omega
  | b :: l, t, n, hs, hb, hn => by
    obtain ⟨g1, g2⟩ := hs.head
    obtain ⟨b1, b2⟩ := hb b (by simp)
    unfold gapsF
    by_cases hw : t < b.s ∧ n ≤ b.s - t
    · have : wide n (t, b.s) = true := by unfold wide; simpa using hw.2
      rw [if_pos hw.1, List.singleton_append, List.find?_cons_of_pos this]
      refine ⟨Int.le_refl _, by simp only; omega, ?_, fun s h1 h2 => by simp only at h2; omega⟩
      rw [anyHits_false]
      simp only
      intro x hx hh
      rcases List.mem_cons.1 hx with rfl | hx
      · omega
      · have := g2 x hx; omega
    · have hfind : ((if t < b.s then [(t, b.s)] else []) ++ gapsF b.e l).find? (wide n) = (gapsF b.e l).find? (wide n) := by
        split
        · rename_i ht
          have : ¬ wide n (t, b.s) = true := by unfold wide; simp; omega
          rw [List.singleton_append, List.find?_cons_of_neg this]
        · rfl
      rw [hfind]
      have ih := gapsF_first (t := b.e) (n := n) hs.tail (fun x hx => by have := g2 x hx; exact ⟨by omega, (hb x (by simp [hx])).2⟩) hn
      have low : ∀ s, t ≤ s → s < b.e → anyHits (b :: l) s (s + n) = true := fun s h1 h2 => anyHits_true.2 ⟨b, by simp, by omega, h2⟩
      have up : ∀ s, b.e ≤ s → anyHits (b :: l) s (s + n) = anyHits l s (s + n) := fun s h => by
        unfold anyHits; rw [List.any_cons]
        have : hits b s (s + n) = false := by unfold hits; simp; omega
        rw [this, Bool.false_or]
      revert ih
      cases ((gapsF b.e l).find? (wide n)).map (·.1) with
      | none =>
        intro ih s h1 h2
        by_cases h : s < b.e
        · exact low s h1 h
        · rw [up s (by omega)]; exact ih s (by omega) h2
      | some u =>
        rintro ⟨i1, i2, i3, i4⟩
        refine ⟨by omega, i2, by rw [up u i1]; exact i3, fun s h1 h2 => ?_⟩
        by_cases h : s < b.e
        · exact low s h1 h
        · rw [up s (by omega)]; exact i4 s (by omega) h2
theorem anyHits_drop {l : List Bk} {t s e : Int} (hs : Srt l) (h : t ≤ s) : anyHits (l.drop (fb l t)) s e = anyHits l s e := by
  obtain ⟨h1, _⟩ := fb_split (t := t) hs
  have : anyHits l s e = (anyHits (l.take (fb l t)) s e || anyHits (l.drop (fb l t)) s e) := by
    unfold anyHits; rw [← List.any_append, List.take_append_drop]
  rw [this]
  have h0 : anyHits (l.take (fb l t)) s e = false := by
    rw [anyHits_false]; intro b hb hh; have := h1 b hb; omega
  rw [h0, Bool.false_or]
theorem first_is {l : List Bk} {f n : Int} (hs : Srt l) (hb : ∀ b ∈ l, b.e ≤ 1000000) (hn : 1 ≤ n) : IsFirst l f n (first l f n) := by
  obtain ⟨h1, h2⟩ := fb_split (t := f) hs
  have hsd : Srt (l.drop (fb l f)) := ⟨hs.1.sublist (List.drop_sublist _ _), fun b hb => hs.2 b (List.mem_of_mem_drop hb)⟩
  have := gapsF_first (t := f) (n := n) hsd (fun b hb' => ⟨h2 b hb', hb b (List.mem_of_mem_drop hb')⟩) hn
  unfold first
  revert this
  cases ((gapsF f (l.drop (fb l f))).find? (wide n)).map (·.1) with
  | none => intro h s a1 a2; rw [← anyHits_drop hs a1]; exact h s a1 a2
  | some t => rintro ⟨a1, a2, a3, a4⟩; exact ⟨a1, a2, by rw [← anyHits_drop hs a1]; exact a3, fun s c1 c2 => by rw [← anyHits_drop hs c1]; exact a4 s c1 c2⟩

/-! ### calendars -/
abbrev Kal := Nat → List Bk
structure Ok (K : Kal) : Prop where
  srt : ∀ i, i < 60 → Srt (K i)
  mem : ∀ i, i < 60 → ∀ b ∈ K i, okB b = true ∧ b.tool = (i : Int)
theorem Ok.len {K : Kal} (h : Ok K) {i : Nat} (hi : i < 60) : (K i).length ≤ 1000000 := by
  have := Srt.length_le (t := 0) (m := 1000000) (h.srt i hi) (fun b hb => by have := okB_iff.1 (h.mem i hi b hb).1; exact ⟨this.2.1, this.2.2.2.1⟩) (by omega)
  omega
def empty : Kal := fun _ => []
theorem Ok.empty : Ok empty := ⟨fun _ _ => Srt.nil, fun _ _ b hb => by cases hb⟩
def put (K : Kal) (b : Bk) : Kal := fun i => if i = b.tool.toNat then ins (K i) b else K i
def free (K : Kal) (b : Bk) : Bool := okB b && !busy (K b.tool.toNat) b.s b.e
def book (K : Kal) (b : Bk) : Kal := if free K b = true then put K b else K
theorem Ok.put {K : Kal} {b : Bk} (h : Ok K) (hf : free K b = true) : Ok (put K b) := by
  unfold free at hf
  rw [Bool.and_eq_true] at hf
  obtain ⟨h1, h2⟩ := hf
  have hb := okB_iff.1 h1
  have hn : anyHits (K b.tool.toNat) b.s b.e = false := by
    unfold busy at h2
    have : decide (b.s < b.e) = true := by simp; omega
    rw [this, Bool.true_and] at h2
    simpa using h2
  refine ⟨fun i hi => ?_, fun i hi x hx => ?_⟩
  · unfold Kal.put; split
    · rename_i e; rw [e] at hi ⊢; exact (h.srt _ hi).ins hb.2.2.1 hn
    · exact h.srt i hi
  · unfold Kal.put at hx
    split at hx
    · rename_i e
      rcases mem_ins.1 hx with rfl | hx
      · exact ⟨h1, by omega⟩
      · exact h.mem i hi x hx
    · exact h.mem i hi x hx
theorem Ok.book {K : Kal} (h : Ok K) (b : Bk) : Ok (book K b) := by
  unfold Kal.book; split
  · rename_i hf; exact h.put hf
  · exact h
def drop (K : Kal) (o : Int) : Kal := fun i => (K i).filter (fun b => !decide (b.o = o))
theorem Ok.drop {K : Kal} (h : Ok K) (o : Int) : Ok (drop K o) := ⟨fun i hi => (h.srt i hi).filter _, fun i hi b hb => h.mem i hi b (List.mem_filter.1 hb).1⟩
def upTo (K : Kal) (k : Nat) : List Bk := (List.range k).flatMap K
theorem upTo_succ (K : Kal) (k : Nat) : upTo K (k + 1) = upTo K k ++ K k := by unfold upTo; rw [List.range_succ, List.flatMap_append]; simp
def all (K : Kal) : List Bk := upTo K 60
theorem upTo_len {K : Kal} (h : Ok K) : ∀ k, k ≤ 60 → (upTo K k).length ≤ k * 1000000
  | 0, _ => by simp [upTo]
  | k + 1, hk => by have := upTo_len h k (by omega); have := h.len (i := k) (by omega); rw [upTo_succ, List.length_append]; omega
def owned (K : Kal) (o : Int) : List Bk := (all K).filter (fun b => decide (b.o = o))
end Go.Proofs.YtihohjgjklcnlaaDoor.Kal

namespace Go.Proofs.YtihohjgjklcnlaaDoor
open Go.RowKit

theorem ret_int {k : IntKind} {a b : Int} (h : a = b) : Ending.returned (.int k a) = .returned (.int k b) := by rw [h]
theorem ret_bool {a b : Bool} (h : a = b) : Ending.returned (.bool a) = .returned (.bool b) := by rw [h]
theorem below_step {w w1 w2 : World} (a : Below w.heap.size w w1) (b : Below w1.heap.size w1 w2) : Below w.heap.size w w2 := a.trans (b.mono a.size)
theorem below_new (w : World) (o : Obj) : Below w.heap.size w (w.alloc o) := (Below.refl _ _).alloc (Nat.le_refl _) _
theorem below_drewN {B : Nat} {a w : World} (h : Below B a w) (k : Nat) : Below B a (w.drewN k) := ⟨h.os, h.tape, h.output, h.size, h.block⟩
theorem bcell {W w1 : World} (hb : Below W.heap.size W w1) : (∀ b o, b < W.heap.size → w1.cell? ⟨b, o, none⟩ = W.cell? ⟨b, o, none⟩) ∧ (∀ b o, b < W.heap.size → w1.frozen? ⟨b, o, none⟩ = W.frozen? ⟨b, o, none⟩) :=
  ⟨fun b o h => hb.cell (p := ⟨b, o, none⟩) h, fun b o h => hb.frozen (p := ⟨b, o, none⟩) h⟩
theorem cell_below {w w' : World} (hb : Below w.heap.size w w') {a : Addr} {v : Value} (hc : w.cell? a = some v) : w'.cell? a = some v := (hb.cell (World.block_lt_of_cell? w a hc)).trans hc
/-- Within the bounds of an int. -/
abbrev Fits (n : Int) : Prop := -9223372036854775808 ≤ n ∧ n ≤ 9223372036854775807
theorem box_cell {w : World} {b : Nat} {cs : Array Value} {t : TypeId} (h : w.heap[b]? = some (.cells cs t)) (o : Nat) (v : Value) (hv : cs[o]? = some v) : w.cell? ⟨b, o, none⟩ = some v := by
  simp only [World.cell?, h]; exact hv
theorem box_fz {w : World} {b : Nat} {cs : Array Value} {t : TypeId} (h : w.heap[b]? = some (.cells cs t)) (o : Nat) : w.frozen? ⟨b, o, none⟩ = false := by simp [World.frozen?, h]
theorem block_set {w : World} {b o : Nat} {cs : Array Value} {t : TypeId} (h : w.heap[b]? = some (.cells cs t)) (u : Value) : (w.setCell ⟨b, o, none⟩ u).heap[b]? = some (.cells (cs.setIfInBounds o u) t) := by
  have hlt := lt_of_block h
  have h' : w.heap[b] = .cells cs t (0, 0) := by simpa [Array.getElem?_eq_getElem hlt] using h
  show (w.heap.modify b _)[b]? = _
  rw [Array.getElem?_eq_getElem (by simpa using hlt), Array.getElem_modify_self, h']
  rfl
theorem grown_set {w : World} (b o : Nat) (u : Value) : w.grownBy (w.setCell ⟨b, o, none⟩ u) (some b) :=
  ⟨rfl, rfl, rfl, by simp [World.setCell], fun k _ hr => Below.heap_setCell _ _ _ _ (by intro e; exact hr (by rw [e]))⟩
/-- The block of a row of the call's own. -/
theorem own_block {w : World} {base : Nat} {e : TypeId} {size : Nat} {v : Value} {n : Nat} {xs : List Value} (h : w.ownsRow base e size v n xs) {k : Nat} (hk : v.ownBlock = some k) : ∃ cs, w.heap[k]? = some (.cells cs e) := by
  rcases h.2 with ⟨rfl, _⟩ | ⟨g, cap, cur, rfl, _, hg, _⟩
  · simp [Value.ownBlock] at hk
  · simp only [Value.ownBlock, Option.some.injEq] at hk; subst hk; exact ⟨cur, hg⟩
theorem own_below {w w' : World} {base : Nat} {e : TypeId} {size : Nat} {v : Value} {n : Nat} {xs : List Value} (h : w.ownsRow base e size v n xs) (hb : Below w.heap.size w w') : w'.ownsRow base e size v n xs := by
  obtain ⟨h1, h2 | ⟨g, cap, cur, rfl, h2, h3, h4⟩⟩ := h
  · exact ⟨h1, .inl h2⟩
  · exact ⟨h1, .inr ⟨g, cap, cur, rfl, h2, by rw [hb.block g (lt_of_block h3)]; exact h3, h4⟩⟩
theorem own_slice {w : World} {base : Nat} {e : TypeId} {size : Nat} {v : Value} {n : Nat} {xs : List Value} (h : w.ownsRow base e size v n xs) : ∃ a c, v = .slice a n c ∧ n ≤ c ∧ c ≤ maxLen ∧ (0 < n → ∃ g, a = some ⟨g, 0, none⟩ ∧ g < w.heap.size ∧ ∀ (j : Nat) (u : Value), xs[j]? = some u → w.cell? ⟨g, 0 + j, none⟩ = some u) := by
  rcases h.2 with ⟨rfl, h0⟩ | ⟨g, cap, cur, rfl, h2, h3, h4, h5, h6, h7⟩
  · exact ⟨none, 0, by rw [h0], by omega, by decide, fun hn => by omega⟩
  · refine ⟨_, cap, rfl, h4, h5, fun _ => ⟨g, rfl, lt_of_block h3, fun j u hu => ?_⟩⟩
    have := h.cells (g := g) rfl j u hu
    cases j <;> simpa [Addr.add] using this

/-! ### what a call may have written -/
/-- New blocks, and writes to the blocks of S. -/
structure Ch (S : Nat → Prop) (w w' : World) : Prop where
  os : w'.os = w.os
  tape : w'.tape = w.tape
  output : w'.output = w.output
  size : w.heap.size ≤ w'.heap.size
  block : ∀ k, k < w.heap.size → ¬ S k → w'.heap[k]? = w.heap[k]?
theorem Ch.refl (S : Nat → Prop) (w : World) : Ch S w w := ⟨rfl, rfl, rfl, Nat.le_refl _, fun _ _ _ => rfl⟩
theorem Ch.ofBelow {S : Nat → Prop} {w w' : World} (h : Below w.heap.size w w') : Ch S w w' := ⟨h.os, h.tape, h.output, h.size, fun k hk _ => h.block k hk⟩
theorem Ch.grown {S : Nat → Prop} {w w' : World} {row : Option Nat} (h : w.grownBy w' row) (hr : ∀ k, row = some k → S k) : Ch S w w' := ⟨h.os, h.tape, h.output, h.size, fun k hk hs => h.block k hk (fun e => hs (hr k e.symm))⟩
theorem Ch.trans {S S' : Nat → Prop} {a b c : World} (h : Ch S a b) (k : Ch S' b c) (hs : ∀ i, i < a.heap.size → S' i → S i) : Ch S a c :=
  ⟨k.os.trans h.os, k.tape.trans h.tape, k.output.trans h.output, Nat.le_trans h.size k.size, fun i hi hn => (k.block i (Nat.lt_of_lt_of_le hi h.size) (fun e => hn (hs i hi e))).trans (h.block i hi hn)⟩
theorem Ch.mono {S S' : Nat → Prop} {a b : World} (h : Ch S a b) (hs : ∀ i, S i → S' i) : Ch S' a b := ⟨h.os, h.tape, h.output, h.size, fun i hi hn => h.block i hi (fun e => hn (hs i e))⟩
theorem Ch.below {S : Nat → Prop} {w w' : World} (h : Ch S w w') {B : Nat} (hB : B ≤ w.heap.size) (hS : ∀ k, S k → B ≤ k) : Below B w w' := ⟨h.os, h.tape, h.output, h.size, fun k hk => h.block k (by omega) (fun e => by have := hS k e; omega)⟩
theorem Ch.drewN {S : Nat → Prop} {w w' : World} (h : Ch S w w') (n : Nat) : Ch S w (w'.drewN n) := ⟨h.os, h.tape, h.output, h.size, h.block⟩

/-! ### bookings in memory -/
def bkCells (b : Kal.Bk) : List Value := [.int .i64 b.tool, .int .i64 b.s, .int .i64 b.e, .int .i64 b.o]
def bkRow (l : List Kal.Bk) : List Value := l.flatMap bkCells
abbrev bkV (b : Kal.Bk) : Value := .agg #[.int .i64 b.tool, .int .i64 b.s, .int .i64 b.e, .int .i64 b.o]
theorem bkRow_length (l : List Kal.Bk) : (bkRow l).length = l.length * 4 := by
  unfold bkRow; induction l with
  | nil => rfl
  | cons x l ih => rw [List.flatMap_cons, List.length_append, ih]; simp [bkCells]; omega
theorem bkRow_append (a b : List Kal.Bk) : bkRow (a ++ b) = bkRow a ++ bkRow b := by simp [bkRow]
theorem bkRow_snoc (l : List Kal.Bk) (b : Kal.Bk) : bkRow (l ++ [b]) = bkRow l ++ bkCells b := by simp [bkRow]
theorem flat_at {α : Type} (f : α → List Value) (k : Nat) (hk : ∀ x, (f x).length = k) : ∀ (L : List α) (i j : Nat) (hi : i < L.length), j < k → (L.flatMap f)[i * k + j]? = (f L[i])[j]?
  | x :: L, 0, j, hi, hj => by
    rw [List.flatMap_cons, Nat.zero_mul, Nat.zero_add, List.getElem?_append_left (by rw [hk]; exact hj)]; rfl
  | x :: L, i + 1, j, hi, hj => by
    rw [List.flatMap_cons, List.getElem?_append_right (by rw [hk, Nat.succ_mul]; omega), hk]
    have : (i + 1) * k + j - k = i * k + j := by rw [Nat.succ_mul]; omega
    rw [this]
    exact flat_at f k hk L i j (by simpa using hi) hj
theorem bkRow_at (l : List Kal.Bk) (i j : Nat) (hi : i < l.length) (hj : j < 4) : (bkRow l)[i * 4 + j]? = (bkCells l[i])[j]? := flat_at bkCells 4 (fun _ => rfl) l i j hi hj
theorem bkRow_take (l : List Kal.Bk) (k : Nat) : (bkRow l).take (k * 4) = bkRow (l.take k) := by
  by_cases h : k ≤ l.length
  · have e : bkRow l = bkRow (l.take k) ++ bkRow (l.drop k) := by rw [← bkRow_append, List.take_append_drop]
    rw [e, List.take_left' (by rw [bkRow_length, List.length_take]; omega)]
  · rw [List.take_of_length_le (by rw [bkRow_length]; omega), List.take_of_length_le (by omega)]
theorem bkRow_drop (l : List Kal.Bk) (k : Nat) : (bkRow l).drop (k * 4) = bkRow (l.drop k) := by
  by_cases h : k ≤ l.length
  · have e : bkRow l = bkRow (l.take k) ++ bkRow (l.drop k) := by rw [← bkRow_append, List.take_append_drop]
    rw [e, List.drop_left' (by rw [bkRow_length, List.length_take]; omega)]
  · rw [List.drop_of_length_le (by rw [bkRow_length]; omega), List.drop_of_length_le (by omega)]; rfl
theorem bkRow_one (u : Value) (l : List Kal.Bk) (h : u ∈ bkRow l) : u.oneCell' = true := by
  unfold bkRow at h
  obtain ⟨b, _, hu⟩ := List.mem_flatMap.1 h
  simp only [bkCells, List.mem_cons, List.not_mem_nil, or_false] at hu
  rcases hu with rfl | rfl | rfl | rfl <;> rfl
/-- A slice of bookings that reads as l. -/
def BkA (w : World) (a : Option Addr) (c : Nat) (l : List Kal.Bk) : Prop :=
  l.length ≤ c ∧ c ≤ maxLen ∧ ∀ i (h : i < l.length), ∃ b off : Nat, a = some ⟨b, off, none⟩ ∧ b < w.heap.size ∧ w.cell? ⟨b, off + i * 4, none⟩ = some (.int .i64 l[i].tool) ∧ w.cell? ⟨b, off + i * 4 + 1, none⟩ = some (.int .i64 l[i].s) ∧
    w.cell? ⟨b, off + i * 4 + 2, none⟩ = some (.int .i64 l[i].e) ∧ w.cell? ⟨b, off + i * 4 + 3, none⟩ = some (.int .i64 l[i].o)
theorem BkA.below {w w' : World} {a : Option Addr} {c : Nat} {l : List Kal.Bk} (h : BkA w a c l) (hb : Below w.heap.size w w') : BkA w' a c l := by
  refine ⟨h.1, h.2.1, fun i hi => ?_⟩
  obtain ⟨b, off, rfl, h1, h2, h3, h4, h5⟩ := h.2.2 i hi
  exact ⟨b, off, rfl, Nat.lt_of_lt_of_le h1 hb.size, cell_below hb h2, cell_below hb h3, cell_below hb h4, cell_below hb h5⟩
theorem BkA.ch {S : Nat → Prop} {w w' : World} {a : Option Addr} {c : Nat} {l : List Kal.Bk} (h : BkA w a c l) (hb : Ch S w w') (hS : ∀ x, a = some x → ¬ S x.block) : BkA w' a c l := by
  refine ⟨h.1, h.2.1, fun i hi => ?_⟩
  obtain ⟨b, off, rfl, h1, h2, h3, h4, h5⟩ := h.2.2 i hi
  have hk := hb.block b h1 (hS _ rfl)
  have cell : ∀ {o : Nat} {v : Value}, w.cell? ⟨b, o, none⟩ = some v → w'.cell? ⟨b, o, none⟩ = some v := fun {o v} hc => (World.cell?_of_block (a := ⟨b, o, none⟩) hk).trans hc
  exact ⟨b, off, rfl, Nat.lt_of_lt_of_le h1 hb.size, cell h2, cell h3, cell h4, cell h5⟩
theorem BkA.nil (w : World) : BkA w none 0 [] := ⟨Nat.le_refl _, by decide, fun i hi => by cases hi⟩
theorem BkA.at {w : World} {a : Option Addr} {c : Nat} {l : List Kal.Bk} (h : BkA w a c l) (h0 : 0 < l.length) : ∃ b off : Nat, a = some ⟨b, off, none⟩ ∧ b < w.heap.size ∧ ∀ i (h : i < l.length), w.cell? ⟨b, off + i * 4, none⟩ = some (.int .i64 l[i].tool) ∧ w.cell? ⟨b, off + i * 4 + 1, none⟩ = some (.int .i64 l[i].s) ∧
    w.cell? ⟨b, off + i * 4 + 2, none⟩ = some (.int .i64 l[i].e) ∧ w.cell? ⟨b, off + i * 4 + 3, none⟩ = some (.int .i64 l[i].o) := by
  obtain ⟨b, off, rfl, h1, -⟩ := h.2.2 0 h0
  refine ⟨b, off, rfl, h1, fun i hi => ?_⟩
  obtain ⟨b', off', e, _, h2⟩ := h.2.2 i hi
  injection e with e; injection e with e1 e2; subst e1; subst e2; exact h2
/-- A row of bookings that the call has made. -/
abbrev BkOwn (w : World) (B : Nat) (v : Value) (l : List Kal.Bk) : Prop := w.ownsRow B 73 4 v l.length (bkRow l)
theorem BkOwn.arg {w : World} {B : Nat} {v : Value} {l : List Kal.Bk} (h : BkOwn w B v l) : ∃ a c, v = .slice a l.length c ∧ BkA w a c l ∧ (∀ x, a = some x → v.ownBlock = some x.block) := by
  obtain ⟨a, c, rfl, h1, h2, h3⟩ := own_slice h
  refine ⟨a, c, rfl, ⟨h1, h2, fun i hi => ?_⟩, fun x hx => by subst hx; rfl⟩
  obtain ⟨g, rfl, hg, hc⟩ := h3 (by omega)
  have at_ : ∀ j v, j < 4 → (bkCells l[i])[j]? = some v → w.cell? ⟨g, 0 + (i * 4 + j), none⟩ = some v := fun j v hj hv => hc _ _ (by rw [bkRow_at l i j hi hj]; exact hv)
  have z : ∀ j, 0 + (i * 4 + j) = 0 + i * 4 + j := fun j => by omega
  exact ⟨g, 0, rfl, hg, by have := at_ 0 _ (by decide) rfl; simpa using this, by have := at_ 1 _ (by decide) rfl; rwa [z] at this, by have := at_ 2 _ (by decide) rfl; rwa [z] at this, by have := at_ 3 _ (by decide) rfl; rwa [z] at this⟩
theorem BkOwn.nil (w : World) (B : Nat) : BkOwn w B (.slice none 0 0) [] := World.ownsRow_nil _ _ _ _
theorem BkOwn.mono {w : World} {B B' : Nat} {v : Value} {l : List Kal.Bk} (h : BkOwn w B v l) (hB : B' ≤ B) : BkOwn w B' v l := by
  obtain ⟨h1, h2 | ⟨g, cap, cur, rfl, h2, h3, h4⟩⟩ := h
  · exact ⟨h1, .inl h2⟩
  · exact ⟨h1, .inr ⟨g, cap, cur, rfl, Nat.le_trans hB h2, h3, h4⟩⟩
theorem own_ch {S : Nat → Prop} {w w' : World} {base : Nat} {e : TypeId} {size : Nat} {v : Value} {n : Nat} {xs : List Value} (h : w.ownsRow base e size v n xs) (hc : Ch S w w') (hS : ∀ k, v.ownBlock = some k → ¬ S k) : w'.ownsRow base e size v n xs := by
  obtain ⟨h1, h2 | ⟨g, cap, cur, rfl, h2, h3, h4⟩⟩ := h
  · exact ⟨h1, .inl h2⟩
  · exact ⟨h1, .inr ⟨g, cap, cur, rfl, h2, by rw [hc.block g (lt_of_block h3) (hS g rfl)]; exact h3, h4⟩⟩
theorem BkOwn.snoc {w : World} {B : Nat} {v : Value} {l : List Kal.Bk} {b : Kal.Bk} (h : w.ownsRow B 73 4 v (l.length + 1) (bkRow l ++ bkCells b)) : BkOwn w B v (l ++ [b]) := by
  unfold BkOwn; rw [List.length_append, bkRow_snoc]; exact h
theorem info_booking : (Tryd.prog.info? 73).map (fun i => (i.zero, i.size, i.bytes)) = some (some (.agg #[.int .i64 0, .int .i64 0, .int .i64 0, .int .i64 0]), 4, 32) := by kernel_rfl

/-! ### a calendar in memory -/
structure CalP where
  C : Nat
  T : Nat
  V : Nat → Value
abbrev CalP.ptr (c : CalP) : Value := .pointer (some ⟨c.C, 0, none⟩)
def CalP.owns (c : CalP) (k : Nat) : Prop := k = c.C ∨ k = c.T ∨ ∃ i, i < 60 ∧ (c.V i).ownBlock = some k
def tabCells (V : Nat → Value) : Array Value := Array.ofFn (n := 60) fun i => V i.val
theorem tabCells_at (V : Nat → Value) (i : Nat) (h : i < 60) : (tabCells V)[i]? = some (V i) := by unfold tabCells; rw [Array.getElem?_ofFn, dif_pos h]
structure CalAt (B : Nat) (c : CalP) (K : Kal.Kal) (w : World) : Prop where
  box : w.heap[c.C]? = some (.cells #[.pointer (some ⟨c.T, 0, none⟩)] 111)
  tab : w.heap[c.T]? = some (.cells (tabCells c.V) 109)
  rows : ∀ i, i < 60 → BkOwn w B (c.V i) (K i)
  apart : ∀ i j k, i < 60 → j < 60 → (c.V i).ownBlock = some k → (c.V j).ownBlock = some k → i = j
  ok : Kal.Ok K
  lowC : B ≤ c.C
  lowT : B ≤ c.T
theorem CalAt.ne {B : Nat} {c : CalP} {K : Kal.Kal} {w : World} (h : CalAt B c K w) : c.C ≠ c.T := fun e => by
  have h1 := h.box; have h2 := h.tab
  rw [e, h2] at h1; injection h1 with h1; injection h1 with _ h1; exact absurd h1 (by decide)
theorem CalAt.row_ne {B : Nat} {c : CalP} {K : Kal.Kal} {w : World} (h : CalAt B c K w) {i k : Nat} (hi : i < 60) (hk : (c.V i).ownBlock = some k) : k ≠ c.C ∧ k ≠ c.T := by
  obtain ⟨cs, hcs⟩ := own_block (h.rows i hi) hk
  constructor
  · rintro rfl; have h1 := h.box; rw [hcs] at h1; injection h1 with h1; injection h1 with _ h1; exact absurd h1 (by decide)
  · rintro rfl; have h1 := h.tab; rw [hcs] at h1; injection h1 with h1; injection h1 with _ h1; exact absurd h1 (by decide)
theorem CalAt.lt {B : Nat} {c : CalP} {K : Kal.Kal} {w : World} (h : CalAt B c K w) : ∀ k, c.owns k → B ≤ k ∧ k < w.heap.size := by
  rintro k (rfl | rfl | ⟨i, hi, hk⟩)
  · exact ⟨h.lowC, lt_of_block h.box⟩
  · exact ⟨h.lowT, lt_of_block h.tab⟩
  · exact (h.rows i hi).lt k hk
theorem CalAt.ch {S : Nat → Prop} {B : Nat} {c : CalP} {K : Kal.Kal} {w w' : World} (h : CalAt B c K w) (hc : Ch S w w') (hS : ∀ k, c.owns k → ¬ S k) : CalAt B c K w' :=
  ⟨(hc.block _ (lt_of_block h.box) (hS _ (.inl rfl))).trans h.box, (hc.block _ (lt_of_block h.tab) (hS _ (.inr (.inl rfl)))).trans h.tab,
    fun i hi => own_ch (h.rows i hi) hc (fun k hk => hS k (.inr (.inr ⟨i, hi, hk⟩))), h.apart, h.ok, h.lowC, h.lowT⟩
theorem CalAt.below {B : Nat} {c : CalP} {K : Kal.Kal} {w w' : World} (h : CalAt B c K w) (hb : Below w.heap.size w w') : CalAt B c K w' :=
  h.ch (S := fun _ => False) (Ch.ofBelow hb) (fun _ _ h => h)
theorem CalAt.cells {B : Nat} {c : CalP} {K : Kal.Kal} {w : World} (h : CalAt B c K w) : w.cell? ⟨c.C, 0, none⟩ = some (.pointer (some ⟨c.T, 0, none⟩)) ∧ ∀ i, i < 60 → w.cell? ⟨c.T, i, none⟩ = some (c.V i) ∧ w.frozen? ⟨c.T, i, none⟩ = false :=
  ⟨box_cell h.box 0 _ rfl, fun i hi => ⟨box_cell h.tab i _ (tabCells_at _ _ hi), box_fz h.tab i⟩⟩
/-- What a call that changes the calendar leaves. -/
structure Moved (B : Nat) (c c' : CalP) (K' : Kal.Kal) (w w' : World) : Prop where
  at_ : CalAt B c' K' w'
  same : c'.C = c.C ∧ c'.T = c.T
  ch : Ch c.owns w w'
  owns : ∀ k, c'.owns k → c.owns k ∨ w.heap.size ≤ k
theorem Moved.refl {B : Nat} {c : CalP} {K : Kal.Kal} {w w' : World} (h : CalAt B c K w) (hb : Below w.heap.size w w') : Moved B c c K w w' := ⟨h.below hb, ⟨rfl, rfl⟩, Ch.ofBelow hb, fun _ h => .inl h⟩
theorem Moved.trans {B : Nat} {a b c : CalP} {K K' : Kal.Kal} {w1 w2 w3 : World} (h : Moved B a b K w1 w2) (k : Moved B b c K' w2 w3) : Moved B a c K' w1 w3 :=
  ⟨k.at_, ⟨k.same.1.trans h.same.1, k.same.2.trans h.same.2⟩, h.ch.trans k.ch (fun i hi hs => (h.owns i hs).resolve_right (by omega)), fun i hi => by
    rcases k.owns i hi with h1 | h1
    · exact h.owns i h1
    · exact .inr (Nat.le_trans h.ch.size h1)⟩
theorem Moved.step {B : Nat} {a b : CalP} {K : Kal.Kal} {w1 w2 w3 : World} (h : Moved B a b K w1 w2) (hb : Below w2.heap.size w2 w3) : Moved B a b K w1 w3 := h.trans (Moved.refl h.at_ hb)
end Go.Proofs.YtihohjgjklcnlaaDoor

namespace Go.Proofs.YtihohjgjklcnlaaDoor
open Go.RowKit

theorem isTool_any (t : Int) (w : World) : Calls Tryd.prog 85 #[.int .i64 t] w fun e w' => e = .returned (.bool (Kal.isTool t)) ∧ w = w' := by
  by_cases h1 : 0 ≤ t
  · have hv : decide (t < 60) = Kal.isTool t := by unfold Kal.isTool; simp [h1]
    have HV := Lib.hid hv; clear hv
    go_enter Tryd.func85, Tryd.ntmps85
    go_wp2
    go_ret
    exact ⟨ret_bool HV.out, rfl⟩
  · have hv : Kal.isTool t = false := by unfold Kal.isTool; simp [h1]
    have HV := Lib.hid hv; clear hv
    go_enter Tryd.func85, Tryd.ntmps85
    go_wp2
    go_ret
    exact ⟨ret_bool HV.out.symm, rfl⟩
theorem isNil_nil (w : World) : Calls Tryd.prog 53 #[.pointer none] w fun e w' => e = .returned (.bool true) ∧ w = w' := by
  go_enter Tryd.func53, Tryd.ntmps53
  go_wp2
  go_ret
  exact ⟨rfl, rfl⟩
theorem isNil_no {B : Nat} {c : CalP} {K : Kal.Kal} {w : World} (h : CalAt B c K w) : Calls Tryd.prog 53 #[c.ptr] w fun e w' => e = .returned (.bool false) ∧ w = w' := by
  have hc := h.cells.1
  clear h
  go_enter Tryd.func53, Tryd.ntmps53
  go_wp2
  go_ret
  exact ⟨rfl, rfl⟩
set_option maxRecDepth 100000 in
theorem isValid_any (b : Kal.Bk) (w : World) : Calls Tryd.prog 54 #[bkV b] w fun e w' => e = .returned (.bool (Kal.okB b)) ∧ Below w.heap.size w w' := by
  obtain ⟨V, hV⟩ : ∃ V, Kal.isTool b.tool = V := ⟨_, rfl⟩
  have hT := isTool_any b.tool
  rw [hV] at hT
  have HT := Lib.hid hT
  have HO : Hid (Kal.okB b = (V && decide (0 ≤ b.s) && decide (b.s < b.e) && decide (b.e ≤ 1000000) && decide (1 ≤ b.o) && decide (b.o ≤ 1000000))) := Lib.hid (by unfold Kal.okB; rw [hV])
  clear hT hV
  rw [HO.out]
  obtain ⟨t, s, e, o⟩ := b
  cases V
  · go_enter Tryd.func54, Tryd.ntmps54
    go_wp2_with fail
    refine (HT.out _).mono ?_; rintro _ w1 ⟨rfl, rfl⟩
    go_wp2_with fail
    go_ret
    exact ⟨by simp, below_new _ _⟩
  · by_cases h1 : 0 ≤ s
    · by_cases h2 : s < e
      · by_cases h3 : e ≤ 1000000
        · by_cases h4 : 1 ≤ o
          · go_enter Tryd.func54, Tryd.ntmps54
            go_wp2_with fail
            refine (HT.out _).mono ?_; rintro _ w1 ⟨rfl, rfl⟩
            go_wp2_with fail
            go_ret
            exact ⟨by simp [h1, h2, h3, h4], below_new _ _⟩
          · go_enter Tryd.func54, Tryd.ntmps54
            go_wp2_with fail
            refine (HT.out _).mono ?_; rintro _ w1 ⟨rfl, rfl⟩
            go_wp2_with fail
            go_ret
            exact ⟨by simp; intros; omega, below_new _ _⟩
        · go_enter Tryd.func54, Tryd.ntmps54
          go_wp2_with fail
          refine (HT.out _).mono ?_; rintro _ w1 ⟨rfl, rfl⟩
          go_wp2_with fail
          go_ret
          exact ⟨by simp; intros; omega, below_new _ _⟩
      · go_enter Tryd.func54, Tryd.ntmps54
        go_wp2_with fail
        refine (HT.out _).mono ?_; rintro _ w1 ⟨rfl, rfl⟩
        go_wp2_with fail
        go_ret
        exact ⟨by simp; intros; omega, below_new _ _⟩
    · go_enter Tryd.func54, Tryd.ntmps54
      go_wp2_with fail
      refine (HT.out _).mono ?_; rintro _ w1 ⟨rfl, rfl⟩
      go_wp2_with fail
      go_ret
      exact ⟨by simp; intros; omega, below_new _ _⟩
theorem list_nil (t : Int) (w : World) : Calls Tryd.prog 86 #[.pointer none, .int .i64 t] w fun e w' => e = .returned (.slice none 0 0) ∧ w = w' := by
  go_enter Tryd.func86, Tryd.ntmps86
  go_wp2_with fail
  refine (isNil_nil _).mono ?_; rintro _ w1 ⟨rfl, rfl⟩
  go_wp2_with fail
  go_ret
  exact ⟨rfl, rfl⟩
theorem list_no {B : Nat} {c : CalP} {K : Kal.Kal} {w : World} (t : Int) (h : CalAt B c K w) (ht : Kal.isTool t = false) : Calls Tryd.prog 86 #[c.ptr, .int .i64 t] w fun e w' => e = .returned (.slice none 0 0) ∧ w = w' := by
  have HT := isTool_any t
  rw [ht] at HT
  have HT := Lib.hid HT
  have HN := Lib.hid (isNil_no h)
  clear h ht
  go_enter Tryd.func86, Tryd.ntmps86
  go_wp2_with fail
  refine HN.out.mono ?_; rintro _ w1 ⟨rfl, rfl⟩
  go_wp2_with fail
  refine (HT.out _).mono ?_; rintro _ w1 ⟨rfl, rfl⟩
  go_wp2_with fail
  go_ret
  exact ⟨rfl, rfl⟩
theorem list_yes {B : Nat} {c : CalP} {K : Kal.Kal} {w : World} (t : Nat) (h : CalAt B c K w) (ht : t < 60) : Calls Tryd.prog 86 #[c.ptr, .int .i64 t] w fun e w' => e = .returned (c.V t) ∧ w = w' := by
  have HT := isTool_any t
  rw [show Kal.isTool t = true by unfold Kal.isTool; simp; omega] at HT
  have HT := Lib.hid HT
  have HN := Lib.hid (isNil_no h)
  have hc := h.cells.1
  have hv := (h.cells.2 t ht).1
  generalize c.V t = v at *
  have t0 : (0 : Int) ≤ t := by omega
  have t1 : (t : Int) < 60 := by omega
  clear h ht
  go_enter Tryd.func86, Tryd.ntmps86
  go_wp2_with fail
  refine HN.out.mono ?_; rintro _ w1 ⟨rfl, rfl⟩
  go_wp2_with fail
  refine (HT.out _).mono ?_; rintro _ w1 ⟨rfl, rfl⟩
  go_wp2_with fail
  go_ret
  exact ⟨rfl, rfl⟩

def pickZ (c n : Int) : Int := if c < 0 then (-(c + 1)) % n else c % n
theorem pickZ_bd {c n : Int} (h : 0 < n) : 0 ≤ pickZ c n ∧ pickZ c n < n := by
  unfold pickZ; split
  · exact ⟨Int.emod_nonneg _ (by omega), Int.emod_lt_of_pos _ h⟩
  · exact ⟨Int.emod_nonneg _ (by omega), Int.emod_lt_of_pos _ h⟩
end Go.Proofs.YtihohjgjklcnlaaDoor
