/-
  Bookings on paper: the list of a tool by ascending starts, where a booking is put in, what is busy, the first free time.
-/
import Derived.Test.YtjdhjlhcdpekbaaChecked
namespace Go.Proofs.Ytjdhjlhcdpekbaa.Kal

structure Bk where
  tool : Int
  s : Int
  e : Int
  o : Int
  deriving DecidableEq
def isTool (t : Int) : Bool := decide (0 ≤ t) && decide (t < 60)
def okB (b : Bk) : Bool := isTool b.tool && decide (0 ≤ b.s) && decide (b.s < b.e) && decide (b.e ≤ 1000000) && decide (1 ≤ b.o) && decide (b.o ≤ 1000000)
theorem okB_iff {b : Bk} : okB b = true ↔ (0 ≤ b.tool ∧ b.tool < 60) ∧ 0 ≤ b.s ∧ b.s < b.e ∧ b.e ≤ 1000000 ∧ 1 ≤ b.o ∧ b.o ≤ 1000000 := by
  unfold okB isTool; simp only [Bool.and_eq_true, decide_eq_true_eq]
  constructor
  · rintro ⟨⟨⟨⟨⟨h1, h2⟩, h3⟩, h4⟩, h5⟩, h6⟩; exact ⟨h1, h2, h3, h4, h5, h6⟩
  · rintro ⟨h1, h2, h3, h4, h5, h6⟩; exact ⟨⟨⟨⟨⟨h1, h2⟩, h3⟩, h4⟩, h5⟩, h6⟩
/-- The bookings of a tool: one behind the other. -/
def Srt (l : List Bk) : Prop := l.Pairwise (fun a b => a.e ≤ b.s) ∧ ∀ b ∈ l, b.s < b.e
theorem Srt.nil : Srt [] := ⟨List.Pairwise.nil, fun b hb => by cases hb⟩
theorem Srt.tail {x : Bk} {l : List Bk} (h : Srt (x :: l)) : Srt l := ⟨(List.pairwise_cons.1 h.1).2, fun b hb => h.2 b (List.mem_cons_of_mem _ hb)⟩
theorem Srt.head {x : Bk} {l : List Bk} (h : Srt (x :: l)) : x.s < x.e ∧ ∀ b ∈ l, x.e ≤ b.s ∧ b.s < b.e := ⟨h.2 x (by simp), fun b hb => ⟨(List.pairwise_cons.1 h.1).1 b hb, h.2 b (List.mem_cons_of_mem _ hb)⟩⟩
theorem Srt.cons {x : Bk} {l : List Bk} (h : Srt l) (h1 : x.s < x.e) (h2 : ∀ b ∈ l, x.e ≤ b.s) : Srt (x :: l) :=
  ⟨List.pairwise_cons.2 ⟨h2, h.1⟩, fun b hb => by rcases List.mem_cons.1 hb with rfl | hb; exact h1; exact h.2 b hb⟩
theorem Srt.filter {l : List Bk} (h : Srt l) (p : Bk → Bool) : Srt (l.filter p) := ⟨h.1.filter p, fun b hb => h.2 b (List.mem_filter.1 hb).1⟩
theorem Srt.length_le : ∀ {l : List Bk} {t m : Int}, Srt l → (∀ b ∈ l, t ≤ b.s ∧ b.e ≤ m) → t ≤ m → (l.length : Int) ≤ m - t
  | [], t, m, _, _, h => by simp; omega
  | x :: l, t, m, hs, hb, _ => by
    have h1 := hb x (by simp)
    have h2 := hs.head
    have := Srt.length_le (t := x.e) (m := m) hs.tail (fun b hb' => ⟨(h2.2 b hb').1, (hb b (by simp [hb'])).2⟩) h1.2
    simp only [List.length_cons]; omega

/-- How many bookings end at a time or ahead of it. -/
def fb (l : List Bk) (t : Int) : Nat := l.countP (fun b => !decide (t < b.e))
theorem fb_le (l : List Bk) (t : Int) : fb l t ≤ l.length := List.countP_le_length
theorem fb_zero {l : List Bk} {t : Int} (h : ∀ b ∈ l, t < b.e) : fb l t = 0 := by
  unfold fb; rw [List.countP_eq_zero]; intro b hb; simp [h b hb]
theorem fb_hit {x : Bk} {l : List Bk} {t : Int} (hs : Srt (x :: l)) (h : t < x.e) : fb (x :: l) t = 0 :=
  fb_zero (fun b hb => by
    rcases List.mem_cons.1 hb with rfl | hb
    · exact h
    · have := (hs.head).2 b hb; omega)
theorem fb_past {x : Bk} {l : List Bk} {t : Int} (h : ¬ t < x.e) : fb (x :: l) t = fb l t + 1 := by
  unfold fb; rw [List.countP_cons_of_pos (by simpa using h)]
theorem fb_split : ∀ {l : List Bk} {t : Int}, Srt l → (∀ b ∈ l.take (fb l t), b.e ≤ t) ∧ ∀ b ∈ l.drop (fb l t), t < b.e
  | [], t, _ => ⟨fun b hb => by simp at hb, fun b hb => by simp at hb⟩
  | x :: l, t, hs => by
    by_cases h : t < x.e
    · rw [fb_hit hs h]
      refine ⟨fun b hb => by simp at hb, fun b hb => ?_⟩
      rcases List.mem_cons.1 hb with rfl | hb
      · exact h
      · have := (hs.head).2 b hb; omega
    · rw [fb_past h]
      obtain ⟨i1, i2⟩ := fb_split (t := t) hs.tail
      refine ⟨fun b hb => ?_, fun b hb => i2 b (by simpa using hb)⟩
      rw [List.take_succ_cons] at hb
      rcases List.mem_cons.1 hb with rfl | hb
      · omega
      · exact i1 b hb
theorem fb_at {l : List Bk} {t : Int} (hs : Srt l) (i : Nat) (h : i < l.length) : decide (t < l[i].e) = decide (fb l t ≤ i) := by
  obtain ⟨h1, h2⟩ := fb_split (t := t) hs
  rw [decide_eq_decide]
  constructor
  · intro hlt
    by_cases hi : fb l t ≤ i
    · exact hi
    · have := h1 l[i] (by
        rw [List.mem_take_iff_getElem]
        exact ⟨i, by omega, rfl⟩)
      omega
  · intro hi
    refine h2 _ ?_
    rw [List.mem_drop_iff_getElem]
    exact ⟨i - fb l t, by omega, by simp [show fb l t + (i - fb l t) = i by omega]⟩
/-- A booking is put in at its place. -/
def ins (l : List Bk) (b : Bk) : List Bk := l.take (fb l b.s) ++ b :: l.drop (fb l b.s)
theorem mem_ins {l : List Bk} {b x : Bk} : x ∈ ins l b ↔ x = b ∨ x ∈ l := by
  unfold ins
  have h : x ∈ l ↔ x ∈ l.take (fb l b.s) ∨ x ∈ l.drop (fb l b.s) := by rw [← List.mem_append, List.take_append_drop]
  rw [h]; simp only [List.mem_append, List.mem_cons]
  constructor
  · rintro (h | h | h)
    · exact .inr (.inl h)
    · exact .inl h
    · exact .inr (.inr h)
  · rintro (h | h | h)
    · exact .inr (.inl h)
    · exact .inl h
    · exact .inr (.inr h)
theorem ins_len (l : List Bk) (b : Bk) : (ins l b).length = l.length + 1 := by
  have := fb_le l b.s
  unfold ins; simp; omega
def hits (b : Bk) (s e : Int) : Bool := decide (b.s < e) && decide (s < b.e)
def anyHits (l : List Bk) (s e : Int) : Bool := l.any (fun b => hits b s e)
theorem anyHits_false {l : List Bk} {s e : Int} : anyHits l s e = false ↔ ∀ b ∈ l, ¬ (b.s < e ∧ s < b.e) := by
  unfold anyHits hits; rw [List.any_eq_false]; simp
theorem anyHits_true {l : List Bk} {s e : Int} : anyHits l s e = true ↔ ∃ b ∈ l, b.s < e ∧ s < b.e := by
  unfold anyHits hits; rw [List.any_eq_true]; simp
def busy (l : List Bk) (s e : Int) : Bool := decide (s < e) && anyHits l s e
/-- What the program looks at: the first booking that ends behind the start. -/
def nextB (o : Option Bk) (e : Int) : Bool := match o with | some b => decide (b.s < e) | none => false
theorem busy_next {l : List Bk} {s e : Int} (hs : Srt l) : anyHits l s e = nextB l[fb l s]? e := by
  obtain ⟨h1, h2⟩ := fb_split (t := s) hs
  unfold nextB
  cases h : l[fb l s]? with
  | none =>
    have hlen := List.getElem?_eq_none_iff.1 h
    simp only
    rw [anyHits_false]
    intro b hb hh
    have := h1 b (by rw [List.take_of_length_le hlen]; exact hb)
    omega
  | some x =>
    obtain ⟨hlt, hx⟩ := List.getElem?_eq_some_iff.1 h
    simp only
    by_cases hxe : x.s < e
    · rw [anyHits_true.2 ⟨x, by rw [← hx]; exact List.getElem_mem hlt, hxe, h2 x (by rw [List.drop_eq_getElem_cons hlt, hx]; simp)⟩]
      simp [hxe]
    · have : anyHits l s e = false := by
        rw [anyHits_false]
        rintro b hb ⟨hb1, hb2⟩
        rw [← List.take_append_drop (fb l s) l] at hb
        rcases List.mem_append.1 hb with hb | hb
        · have := h1 b hb; omega
        · rw [List.drop_eq_getElem_cons hlt, hx] at hb
          rcases List.mem_cons.1 hb with rfl | hb
          · exact hxe hb1
          · have hp : (x :: l.drop (fb l s + 1)).Pairwise (fun a b => a.e ≤ b.s) := by
              have := hs.1.sublist (List.drop_sublist (fb l s) l)
              rwa [List.drop_eq_getElem_cons hlt, hx] at this
            have h3 := (List.pairwise_cons.1 hp).1 b hb
            have h4 := hs.2 x (by rw [← hx]; exact List.getElem_mem hlt)
            omega
      rw [this]; simp [hxe]
theorem Srt.ins {l : List Bk} {b : Bk} (hs : Srt l) (hb : b.s < b.e) (hf : anyHits l b.s b.e = false) : Srt (ins l b) := by
  obtain ⟨h1, h2⟩ := fb_split (t := b.s) hs
  rw [anyHits_false] at hf
  have hsub : ∀ x, x ∈ l.drop (fb l b.s) → x ∈ l := fun x hx => List.mem_of_mem_drop hx
  refine ⟨?_, fun x hx => ?_⟩
  · unfold Kal.ins
    rw [List.pairwise_append]
    refine ⟨hs.1.sublist (List.take_sublist _ _), List.pairwise_cons.2 ⟨fun x hx => ?_, hs.1.sublist (List.drop_sublist _ _)⟩, fun x hx y hy => ?_⟩
    · have a := h2 x hx
      have := hf x (hsub x hx)
      omega
    · rcases List.mem_cons.1 hy with rfl | hy
      · exact h1 x hx
      · have hp := hs.1
        rw [← List.take_append_drop (fb l b.s) l, List.pairwise_append] at hp
        exact hp.2.2 x hx y hy
  · rcases mem_ins.1 hx with rfl | hx
    · exact hb
    · exact hs.2 x hx

/-! ### the gaps, and the first free time -/
def gapsF : Int → List Bk → List (Int × Int)
  | t, [] => if t < 1000000 then [(t, 1000000)] else []
  | t, b :: l => (if t < b.s then [(t, b.s)] else []) ++ gapsF b.e l
def wide (n : Int) (g : Int × Int) : Bool := decide (n ≤ g.2 - g.1)
def first (l : List Bk) (t n : Int) : Option Int := ((gapsF t (l.drop (fb l t))).find? (wide n)).map (·.1)
/-- t is the first free time from f on, for a length n; or there is none. -/
def IsFirst (l : List Bk) (f n : Int) : Option Int → Prop
  | some t => f ≤ t ∧ t + n ≤ 1000000 ∧ anyHits l t (t + n) = false ∧ ∀ s, f ≤ s → s < t → anyHits l s (s + n) = true
  | none => ∀ s, f ≤ s → s + n ≤ 1000000 → anyHits l s (s + n) = true
theorem IsFirst.unique {l : List Bk} {f n : Int} {a b : Option Int} (h1 : IsFirst l f n a) (h2 : IsFirst l f n b) : a = b := by
  cases a with
  | none =>
    cases b with
    | none => rfl
    | some t => have := h1 t h2.1 h2.2.1; rw [h2.2.2.1] at this; cases this
  | some t =>
    cases b with
    | none => have := h2 t h1.1 h1.2.1; rw [h1.2.2.1] at this; cases this
    | some u =>
      obtain ⟨a1, a2, a3, a4⟩ := h1
      obtain ⟨b1, b2, b3, b4⟩ := h2
      rcases Int.lt_trichotomy t u with h | h | h
      · have := b4 t a1 h; rw [a3] at this; cases this
      · rw [h]
      · have := a4 u b1 h; rw [b3] at this; cases this
theorem gapsF_first : ∀ {l : List Bk} {t n : Int}, Srt l → (∀ b ∈ l, t < b.e ∧ b.e ≤ 1000000) → 1 ≤ n → IsFirst l t n (((gapsF t l).find? (wide n)).map (·.1))
  | [], t, n, _, _, hn => by
    unfold gapsF
    split
    · rename_i ht
      by_cases hw : n ≤ 1000000 - t
      · have : wide n (t, 1000000) = true := by unfold wide; simpa using hw
        rw [List.find?_cons_of_pos this]
        exact ⟨Int.le_refl _, by simp only; omega, rfl, fun s h1 h2 => by simp only at h2; omega⟩
      · have : ¬ wide n (t, 1000000) = true := by unfold wide; simpa using hw
        rw [List.find?_cons_of_neg this]
        intro s h1 h2; omega
    · intro s h1 h2; omega
  | b :: l, t, n, hs, hb, hn => by
    obtain ⟨g1, g2⟩ := hs.head
    obtain ⟨b1, b2⟩ := hb b (by simp)
    unfold gapsF
    by_cases hw : t < b.s ∧ n ≤ b.s - t
    · have : wide n (t, b.s) = true := by unfold wide; simpa using hw.2
      rw [if_pos hw.1, List.singleton_append, List.find?_cons_of_pos this]
      refine ⟨Int.le_refl _, by simp only; omega, ?_, fun s h1 h2 => by simp only at h2; omega⟩
      rw [anyHits_false]
      simp only
      intro x hx hh
      rcases List.mem_cons.1 hx with rfl | hx
      · omega
      · have := g2 x hx; omega
    · have hfind : ((if t < b.s then [(t, b.s)] else []) ++ gapsF b.e l).find? (wide n) = (gapsF b.e l).find? (wide n) := by
        split
        · rename_i ht
          have : ¬ wide n (t, b.s) = true := by unfold wide; simp; omega
          rw [List.singleton_append, List.find?_cons_of_neg this]
        · rfl
      rw [hfind]
      have ih := gapsF_first (t := b.e) (n := n) hs.tail (fun x hx => by have := g2 x hx; exact ⟨by omega, (hb x (by simp [hx])).2⟩) hn
      have low : ∀ s, t ≤ s → s < b.e → anyHits (b :: l) s (s + n) = true := fun s h1 h2 => anyHits_true.2 ⟨b, by simp, by omega, h2⟩
      have up : ∀ s, b.e ≤ s → anyHits (b :: l) s (s + n) = anyHits l s (s + n) := fun s h => by
        unfold anyHits; rw [List.any_cons]
        have : hits b s (s + n) = false := by unfold hits; simp; omega
        rw [this, Bool.false_or]
      revert ih
      cases ((gapsF b.e l).find? (wide n)).map (·.1) with
      | none =>
        intro ih s h1 h2
        by_cases h : s < b.e
        · exact low s h1 h
        · rw [up s (by omega)]; exact ih s (by omega) h2
      | some u =>
        rintro ⟨i1, i2, i3, i4⟩
        refine ⟨by omega, i2, by rw [up u i1]; exact i3, fun s h1 h2 => ?_⟩
        by_cases h : s < b.e
        · exact low s h1 h
        · rw [up s (by omega)]; exact i4 s (by omega) h2
theorem anyHits_drop {l : List Bk} {t s e : Int} (hs : Srt l) (h : t ≤ s) : anyHits (l.drop (fb l t)) s e = anyHits l s e := by
  obtain ⟨h1, _⟩ := fb_split (t := t) hs
  have : anyHits l s e = (anyHits (l.take (fb l t)) s e || anyHits (l.drop (fb l t)) s e) := by
    unfold anyHits; rw [← List.any_append, List.take_append_drop]
  rw [this]
  have h0 : anyHits (l.take (fb l t)) s e = false := by
    rw [anyHits_false]; intro b hb hh; have := h1 b hb; omega
  rw [h0, Bool.false_or]
theorem first_is {l : List Bk} {f n : Int} (hs : Srt l) (hb : ∀ b ∈ l, b.e ≤ 1000000) (hn : 1 ≤ n) : IsFirst l f n (first l f n) := by
  obtain ⟨h1, h2⟩ := fb_split (t := f) hs
  have hsd : Srt (l.drop (fb l f)) := ⟨hs.1.sublist (List.drop_sublist _ _), fun b hb => hs.2 b (List.mem_of_mem_drop hb)⟩
  have := gapsF_first (t := f) (n := n) hsd (fun b hb' => ⟨h2 b hb', hb b (List.mem_of_mem_drop hb')⟩) hn
  unfold first
  revert this
  cases ((gapsF f (l.drop (fb l f))).find? (wide n)).map (·.1) with
  | none => intro h s a1 a2; rw [← anyHits_drop hs a1]; exact h s a1 a2
  | some t => rintro ⟨a1, a2, a3, a4⟩; exact ⟨a1, a2, by rw [← anyHits_drop hs a1]; exact a3, fun s c1 c2 => by rw [← anyHits_drop hs c1]; exact a4 s c1 c2⟩

/-! ### calendars -/
abbrev Kal := Nat → List Bk
structure Ok (K : Kal) : Prop where
  srt : ∀ i, i < 60 → Srt (K i)
  mem : ∀ i, i < 60 → ∀ b ∈ K i, okB b = true ∧ b.tool = (i : Int)
theorem Ok.len {K : Kal} (h : Ok K) {i : Nat} (hi : i < 60) : (K i).length ≤ 1000000 := by
  have := Srt.length_le (t := 0) (m := 1000000) (h.srt i hi) (fun b hb => by have := okB_iff.1 (h.mem i hi b hb).1; exact ⟨this.2.1, this.2.2.2.1⟩) (by omega)
  omega
def empty : Kal := fun _ => []
theorem Ok.empty : Ok empty := ⟨fun _ _ => Srt.nil, fun _ _ b hb => by cases hb⟩
def put (K : Kal) (b : Bk) : Kal := fun i => if i = b.tool.toNat then ins (K i) b else K i
def free (K : Kal) (b : Bk) : Bool := okB b && !busy (K b.tool.toNat) b.s b.e
def book (K : Kal) (b : Bk) : Kal := if free K b = true then put K b else K
theorem Ok.put {K : Kal} {b : Bk} (h : Ok K) (hf : free K b = true) : Ok (put K b) := by
  unfold free at hf
  rw [Bool.and_eq_true] at hf
  obtain ⟨h1, h2⟩ := hf
  have hb := okB_iff.1 h1
  have hn : anyHits (K b.tool.toNat) b.s b.e = false := by
    unfold busy at h2
    have : decide (b.s < b.e) = true := by simp; omega
    rw [this, Bool.true_and] at h2
    simpa using h2
  refine ⟨fun i hi => ?_, fun i hi x hx => ?_⟩
  · unfold Kal.put; split
    · rename_i e; rw [e] at hi ⊢; exact (h.srt _ hi).ins hb.2.2.1 hn
    · exact h.srt i hi
  · unfold Kal.put at hx
    split at hx
    · rename_i e
      rcases mem_ins.1 hx with rfl | hx
      · exact ⟨h1, by omega⟩
      · exact h.mem i hi x hx
    · exact h.mem i hi x hx
theorem Ok.book {K : Kal} (h : Ok K) (b : Bk) : Ok (book K b) := by
  unfold Kal.book; split
  · rename_i hf; exact h.put hf
  · exact h
def drop (K : Kal) (o : Int) : Kal := fun i => (K i).filter (fun b => !decide (b.o = o))
theorem Ok.drop {K : Kal} (h : Ok K) (o : Int) : Ok (drop K o) := ⟨fun i hi => (h.srt i hi).filter _, fun i hi b hb => h.mem i hi b (List.mem_filter.1 hb).1⟩
def upTo (K : Kal) (k : Nat) : List Bk := (List.range k).flatMap K
theorem upTo_succ (K : Kal) (k : Nat) : upTo K (k + 1) = upTo K k ++ K k := by unfold upTo; rw [List.range_succ, List.flatMap_append]; simp
def all (K : Kal) : List Bk := upTo K 60
theorem upTo_len {K : Kal} (h : Ok K) : ∀ k, k ≤ 60 → (upTo K k).length ≤ k * 1000000
  | 0, _ => by simp [upTo]
  | k + 1, hk => by have := upTo_len h k (by omega); have := h.len (i := k) (by omega); rw [upTo_succ, List.length_append]; omega
def owned (K : Kal) (o : Int) : List Bk := (all K).filter (fun b => decide (b.o = o))
end Go.Proofs.Ytjdhjlhcdpekbaa.Kal

