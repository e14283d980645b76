/-
  Flows on paper: what is read is printed as it was: a text's lines but those that are ignored.
-/
import Derived.Test.YtcaclijkkbhfhaaGreatDoorFlP
namespace Go.Proofs.YtcaclijkkbhfhaaGreatDoor.Fl
open Go.Lib

/-- What stands behind a word: nothing, or a space and the rest. -/
def tail : Rest → List UInt8
  | none => []
  | some t => 32 :: t
theorem word_inv {α : Type} {r : Rest} {k : List UInt8 → Rest → Option α} {x : α} (h : word r k = some x) : ∃ s w r', r = some s ∧ s = w ++ tail r' ∧ k w r' = some x := by
  cases r with
  | none => cases h
  | some s =>
    rcases cut_cases s 32 with ⟨_, e⟩ | ⟨a, b, _, e1, e2⟩
    · simp only [word, e] at h
      exact ⟨s, s, none, rfl, by simp [tail], by simpa using h⟩
    · simp only [word, e2] at h
      exact ⟨s, a, some b, rfl, e1, by simpa using h⟩
theorem skip_inv {α : Type} {y : List UInt8} {r : Rest} {k : Rest → Option α} {x : α} (h : skip y r k = some x) : ∃ r', r = some (y ++ tail r') ∧ k r' = some x := by
  replace h := word_inv h
  obtain ⟨s, w, r', rfl, rfl, h⟩ := h
  split at h
  · rename_i e; subst e; exact ⟨r', rfl, h⟩
  · cases h
theorem num_inv {α : Type} {r : Rest} {k : Int → Rest → Option α} {x : α} (h : num r k = some x) : ∃ n r', r = some (itoa n ++ tail r') ∧ 0 ≤ n ∧ k n r' = some x := by
  replace h := word_inv h
  obtain ⟨s, w, r', rfl, rfl, h⟩ := h
  replace h := Option.bind_eq_some_iff.1 h
  obtain ⟨n, hn, h⟩ := h
  obtain ⟨h1, rfl⟩ := number_is hn
  exact ⟨n, r', rfl, h1, h⟩
theorem two_inv {α : Type} {r : Rest} {k : Int → Int → Rest → Option α} {x : α} (h : two r k = some x) : ∃ a b r', r = some (span a b ++ tail r') ∧ k a b r' = some x := by
  replace h := word_inv h
  obtain ⟨s, w, r', rfl, rfl, h⟩ := h
  split at h
  · rename_i hc
    replace h := Option.bind_eq_some_iff.1 h
    obtain ⟨a, ha, h⟩ := h
    replace h := Option.bind_eq_some_iff.1 h
    obtain ⟨b, hb, h⟩ := h
    have e := cut_two_is hc
    rw [← (number_is ha).2, ← (number_is hb).2] at e
    exact ⟨a, b, r', by rw [← e]; rfl, h⟩
  · cases h
theorem splitK_is : ∀ (k : Nat) (s : List UInt8), join (splitK [44] 0 k s) [44] = s ∧ splitK [44] 0 k s ≠ []
  | 0, s => by simp [splitK, join_one]
  | k + 1, s => by
    unfold splitK
    split
    · simp [join_one]
    · rename_i h
      by_cases hm : (44 : UInt8) ∈ s
      · obtain ⟨a, b, rfl, hn⟩ := List.eq_append_cons_of_mem hm
        rw [index_some hn]
        have e : (a ++ 44 :: b).drop (((a.length : Nat) : Int).toNat + [(44 : UInt8)].length) = b := by
          rw [Int.toNat_natCast, List.length_singleton, ← List.drop_drop, List.drop_left]; rfl
        rw [e]
        obtain ⟨h1, h2⟩ := splitK_is k b
        refine ⟨?_, by simp⟩
        cases hs : splitK [44] 0 k b with
        | nil => exact absurd hs h2
        | cons y ys => rw [join_two, ← hs, h1]; simp
      · rw [index_none hm] at h; exact absurd rfl h
theorem numbersOf_is : ∀ {ws : List (List UInt8)} {L : List Int}, numbersOf ws = some L → ws = L.map itoa
  | [], L, h => by injection h with h; subst h; rfl
  | w :: ws, L, h => by
    replace h := Option.bind_eq_some_iff.1 h
    obtain ⟨n, hn, h⟩ := h
    replace h := Option.bind_eq_some_iff.1 h
    obtain ⟨r, hr, h⟩ := h
    injection h with h; subst h
    rw [List.map_cons, ← numbersOf_is hr, (number_is hn).2]
theorem numbers_is {w : List UInt8} {m : Nat} {L : List Int} (h : numbers w m = some L) : nums L = w := by
  have h1 := numbersOf_is h
  obtain ⟨h2, h3⟩ := splitK_is (min m (w.length + 1) - 1) w
  unfold splitN at h1
  rw [h1] at h2 h3
  unfold nums
  rw [if_neg (by rintro rfl; exact h3 rfl)]; exact h2
theorem readNext_is {w : List UInt8} {L : List Int} (h : readNext w = some L) : nums L = w := by
  unfold readNext at h
  split at h
  · rename_i e; injection h with h; subst h; rw [e]; rfl
  · exact numbers_is h
theorem readBack_is {r r' : Rest} {b l : Int} (h : readBack r = some ((b, l), r')) : (r = none ∧ b = -1 ∧ l = 0 ∧ r' = none) ∨ (0 ≤ b ∧ r = some (wBack ++ 32 :: (itoa b ++ 32 :: (wLimit ++ 32 :: (itoa l ++ tail r'))))) := by
  cases r with
  | none => simp only [readBack, Option.some.injEq, Prod.mk.injEq] at h; exact .inl ⟨rfl, h.1.1.symm, h.1.2.symm, h.2.symm⟩
  | some s =>
    replace h := skip_inv h
    obtain ⟨r1, e1, h⟩ := h
    replace h := num_inv h
    obtain ⟨n1, r2, rfl, p1, h⟩ := h
    replace h := skip_inv h
    obtain ⟨r3, rfl, h⟩ := h
    replace h := num_inv h
    obtain ⟨n2, r4, rfl, p2, h⟩ := h
    injection h with h
    simp only [Prod.mk.injEq] at h
    obtain ⟨⟨rfl, rfl⟩, rfl⟩ := h
    exact .inr ⟨p1, by rw [e1]; simp [tail]⟩
theorem readMove_is {f f' : Flow} {r : Rest} (h : readMove f r = some (f', none)) : ∃ a b, f' = { f with least := a, most := b } ∧ tail r = 32 :: span a b := by
  replace h := two_inv h
  obtain ⟨a, b, r', rfl, h⟩ := h
  split at h
  · injection h with h
    simp only [Prod.mk.injEq] at h
    obtain ⟨rfl, rfl⟩ := h
    exact ⟨a, b, rfl, by simp [tail]⟩
  · cases h
theorem readStep_is {f f' : Flow} {r : Rest} (h : readStep f r = some (f', none)) : ∃ s, f' = { f with steps := f.steps ++ [s] } ∧ wStep ++ tail r = join (stepWords f.steps.length s) [32] := by
  replace h := num_inv h
  obtain ⟨n, r1, rfl, p1, h⟩ := h
  split at h
  · rename_i hn
    subst hn
    replace h := skip_inv h
    obtain ⟨r2, rfl, h⟩ := h
    replace h := num_inv h
    obtain ⟨rc, r3, rfl, p2, h⟩ := h
    replace h := skip_inv h
    obtain ⟨r4, rfl, h⟩ := h
    replace h := word_inv h
    obtain ⟨s5, w5, r5, rfl, rfl, h⟩ := h
    replace h := Option.bind_eq_some_iff.1 h
    obtain ⟨tl, ht, h⟩ := h
    replace h := skip_inv h
    obtain ⟨r6, rfl, h⟩ := h
    replace h := two_inv h
    obtain ⟨a, b, r7, rfl, h⟩ := h
    replace h := skip_inv h
    obtain ⟨r8, rfl, h⟩ := h
    replace h := word_inv h
    obtain ⟨s9, w9, r9, rfl, rfl, h⟩ := h
    replace h := Option.bind_eq_some_iff.1 h
    obtain ⟨nx, hx, h⟩ := h
    replace h := Option.bind_eq_some_iff.1 h
    obtain ⟨⟨⟨bk, lm⟩, r10⟩, hb, h⟩ := h
    simp only at h
    split at h
    · injection h with h
      simp only [Prod.mk.injEq] at h
      obtain ⟨rfl, rfl⟩ := h
      refine ⟨_, rfl, ?_⟩
      rw [← numbers_is ht, ← readNext_is hx]
      rcases readBack_is hb with ⟨rfl, rfl, rfl, _⟩ | ⟨p3, rfl⟩
      · simp [stepWords, tail, join_cons, joinTail]
      · simp [stepWords, tail, join_cons, joinTail, show ¬ bk = -1 by omega]
    · cases h
  · cases h
theorem readWin_is {f f' : Flow} {r : Rest} (h : readWin f r = some (f', none)) : ∃ w, f' = { f with wins := f.wins ++ [w] } ∧ wWindow ++ tail r = join (winWords w) [32] := by
  replace h := num_inv h
  obtain ⟨a, r1, rfl, p1, h⟩ := h
  replace h := num_inv h
  obtain ⟨b, r2, rfl, p2, h⟩ := h
  replace h := num_inv h
  obtain ⟨l, r3, rfl, p3, h⟩ := h
  split at h
  · injection h with h
    simp only [Prod.mk.injEq] at h
    obtain ⟨rfl, rfl⟩ := h
    exact ⟨_, rfl, by simp [winWords, tail, join_cons, joinTail]⟩
  · cases h

/-! ### the lines read -/
def Inv (st : St) : Prop := (st.last = [] ∧ st.flow = noFlow) ∨ (st.last = wMove ∧ st.flow.steps = [] ∧ st.flow.wins = []) ∨ (st.last = wStep ∧ st.flow.wins = []) ∨ st.last = wWindow
def part (st : St) : List (List UInt8) := if st.last = [] then [] else bodies st.flow
theorem bodies_snocS (f : Flow) (s : Step) (h : f.wins = []) : bodies { f with steps := f.steps ++ [s] } = bodies f ++ [join (stepWords f.steps.length s) [32]] := by
  have e : ∀ (n : Int) (l : List Step), stepBodies n (l ++ [s]) = stepBodies n l ++ [join (stepWords (n + l.length) s) [32]] := by
    intro n l
    induction l generalizing n with
    | nil => simp [stepBodies]
    | cons x l ih => simp only [List.cons_append, stepBodies, ih, List.length_cons]; congr 5; push_cast; omega
  unfold bodies
  rw [h, e]; simp
theorem bodies_snocW (f : Flow) (w : Win) : bodies { f with wins := f.wins ++ [w] } = bodies f ++ [join (winWords w) [32]] := by unfold bodies; simp
theorem line_is {st st' : St} {l : List UInt8} (h : readLine st l = some st') (hi : Inv st) : Inv st' ∧ part st' = part st ++ [l] := by
  replace h := word_inv h
  obtain ⟨s, w, r, e, rfl, h⟩ := h
  injection e with e; subst e
  obtain ⟨⟨f, r'⟩, h1, h2⟩ := Option.bind_eq_some_iff.1 h
  simp only at h2
  split at h2
  rotate_left
  · cases h2
  rename_i hr; subst hr
  injection h2 with h2; subst h2
  split at h1
  · rename_i hw; subst hw
    split at h1
    · rename_i hl
      obtain ⟨a, b, rfl, ht⟩ := readMove_is h1
      rcases hi with ⟨_, hf⟩ | ⟨hl', _⟩ | ⟨hl', _⟩ | hl'
      · rw [hf]
        refine ⟨.inr (.inl ⟨rfl, rfl, rfl⟩), ?_⟩
        unfold part
        rw [if_pos hl, if_neg (show ¬ wMove = [] by decide)]
        simp [bodies, noFlow, stepBodies, moveWords, join_cons, joinTail, ht]
      all_goals (rw [hl] at hl'; exact absurd hl' (by decide))
    · cases h1
  · rename_i hwm
    split at h1
    · rename_i hw; subst hw
      split at h1
      · rename_i hl
        obtain ⟨s, rfl, ht⟩ := readStep_is h1
        have hne : st.last ≠ [] := by rcases hl with hl | hl <;> rw [hl] <;> decide
        have hw0 : st.flow.wins = [] := by
          rcases hi with ⟨h0, _⟩ | ⟨_, _, h0⟩ | ⟨_, h0⟩ | h0
          · exact absurd h0 hne
          · exact h0
          · exact h0
          · rcases hl with hl | hl <;> (rw [h0] at hl; exact absurd hl (by decide))
        refine ⟨.inr (.inr (.inl ⟨rfl, hw0⟩)), ?_⟩
        unfold part
        rw [if_neg hne, if_neg (show ¬ wStep = [] by decide), ht]
        exact bodies_snocS _ _ hw0
      · cases h1
    · split at h1
      · rename_i hw; subst hw
        split at h1
        · rename_i hl
          obtain ⟨w, rfl, ht⟩ := readWin_is h1
          have hne : st.last ≠ [] := by rcases hl with hl | hl <;> rw [hl] <;> decide
          refine ⟨.inr (.inr (.inr rfl)), ?_⟩
          unfold part
          rw [if_neg hne, if_neg (show ¬ wWindow = [] by decide), ht]
          exact bodies_snocW _ _
        · cases h1
      · cases h1
theorem lines_are : ∀ {ls : List (List UInt8)} {n : Nat} {st st' : St}, readLines n st ls = .ok st' → Inv st → Inv st' ∧ part st' = part st ++ ls.filter (fun l => !ignored l)
  | [], n, st, st', h, hi => by injection h with h; subst h; exact ⟨hi, by simp⟩
  | l :: ls, n, st, st', h, hi => by
    unfold readLines at h
    split at h
    · rename_i hg
      obtain ⟨h1, h2⟩ := lines_are h hi
      exact ⟨h1, by rw [h2, List.filter_cons_of_neg (by simp [hg])]⟩
    · rename_i hg
      split at h
      · cases h
      · rename_i st1 h1
        obtain ⟨h2, h3⟩ := line_is h1 hi
        obtain ⟨h4, h5⟩ := lines_are h h2
        refine ⟨h4, ?_⟩
        rw [h5, h3, List.filter_cons_of_pos (by simpa using hg)]; simp
/-- The text of what was read. -/
theorem parse_is {s : List UInt8} {f : Flow} (h : parse s = .ok f) : valid f = true ∧ text f = cat ((lines s).filter fun l => !ignored l) := by
  unfold parse at h
  split at h
  · cases h
  · rename_i st hr
    split at h
    · rename_i hv
      injection h with h; subst h
      obtain ⟨hi, hp⟩ := lines_are hr (.inl ⟨rfl, rfl⟩)
      refine ⟨hv, ?_⟩
      have hne : st.last ≠ [] := by
        intro e
        rcases hi with ⟨_, h0⟩ | ⟨h0, _⟩ | ⟨h0, _⟩ | h0
        · rw [h0] at hv; revert hv; decide
        all_goals (rw [e] at h0; exact absurd h0 (by decide))
      have e1 : part st = bodies st.flow := if_neg hne
      have e2 : part ⟨noFlow, []⟩ = [] := if_pos rfl
      rw [e1, e2, List.nil_append] at hp
      rw [text_cat, hp]
    · cases h
theorem readLines_err : ∀ {ls : List (List UInt8)} {n m : Nat} {st : St}, readLines n st ls = .error m → 1 ≤ m
  | [], n, m, st, h => by cases h
  | l :: ls, n, m, st, h => by
    unfold readLines at h
    split at h
    · exact readLines_err h
    · split at h
      · injection h with h; omega
      · exact readLines_err h
theorem parse_err_pos {s : List UInt8} {n : Nat} (h : parse s = .error n) : 1 ≤ n := by
  unfold parse at h
  split at h
  · rename_i hr; injection h with h; subst h; exact readLines_err hr
  · split at h
    · cases h
    · injection h with h
      have := lines_ne s
      rw [← h]
      exact Nat.pos_of_ne_zero fun e => this (List.eq_nil_of_length_eq_zero e)
end Go.Proofs.YtcaclijkkbhfhaaGreatDoor.Fl
