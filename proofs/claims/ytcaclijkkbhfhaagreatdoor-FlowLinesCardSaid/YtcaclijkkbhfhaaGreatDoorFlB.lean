/-
  Flows on paper: a valid flow's lines are read as what they say; its text is parsed into it.
-/
import Derived.Test.YtcaclijkkbhfhaaGreatDoorFlA
namespace Go.Proofs.YtcaclijkkbhfhaaGreatDoor.Fl
open Go.Lib

theorem within_iff {n a b : Int} : within n a b = true ↔ a ≤ n ∧ n ≤ b := by unfold within; simp
theorem asc_nonneg {count : Int} : ∀ {last : Int} {l : List Int}, -1 ≤ last → asc count last l = true → ∀ x ∈ l, 0 ≤ x ∧ x < count
  | _, [], _, _ => by simp
  | last, n :: l, h, ha => by
    unfold asc at ha
    simp only [Bool.and_eq_true, Bool.not_eq_true', Bool.or_eq_false_iff, decide_eq_false_iff_not, Int.not_le] at ha
    intro x hx
    rcases List.mem_cons.1 hx with rfl | hx
    · omega
    · exact asc_nonneg (by omega) ha.2 x hx
theorem asc_mono {c d : Int} (h : c ≤ d) : ∀ {last : Int} {l : List Int}, asc c last l = true → asc d last l = true
  | _, [], _ => rfl
  | last, n :: l, ha => by
    unfold asc at ha ⊢
    simp only [Bool.and_eq_true, Bool.not_eq_true', Bool.or_eq_false_iff, decide_eq_false_iff_not, Int.not_le] at ha ⊢
    exact ⟨⟨ha.1.1, by omega⟩, asc_mono h ha.2⟩
theorem vRework_iff {b l c : Int} : vRework b l c = true ↔ (b = -1 ∧ l = 0) ∨ (0 ≤ b ∧ b < c ∧ 1 ≤ l ∧ l ≤ 9) := by
  unfold vRework
  split
  · simp; omega
  · simp [within_iff]; omega
structure StepOk (c : Int) (s : Step) : Prop where
  recipe : 1 ≤ s.recipe ∧ s.recipe ≤ 1000000
  tools : 1 ≤ s.tools.length ∧ s.tools.length ≤ 8
  asct : asc 60 (-1) s.tools = true
  least : 1 ≤ s.least ∧ s.least ≤ s.most
  most : s.most ≤ 10000
  next : s.next.length ≤ 4
  ascn : asc c (-1) s.next = true
  back : (s.back = -1 ∧ s.limit = 0) ∨ (0 ≤ s.back ∧ s.back < c ∧ 1 ≤ s.limit ∧ s.limit ≤ 9)
theorem vStep_iff {c : Int} {s : Step} : vStep c s = true ↔ StepOk c s := by
  unfold vStep
  simp only [Bool.and_eq_true, within_iff, decide_eq_true_eq, vRework_iff]
  constructor
  · rintro ⟨⟨⟨⟨⟨⟨⟨h1, h2⟩, h3⟩, h4⟩, h5⟩, h6⟩, h7⟩, h8⟩
    exact ⟨h1, by omega, h3, h4, h5, h6, h7, h8⟩
  · rintro ⟨h1, h2, h3, h4, h5, h6, h7, h8⟩
    exact ⟨⟨⟨⟨⟨⟨⟨h1, by omega⟩, h3⟩, h4⟩, h5⟩, h6⟩, h7⟩, h8⟩
theorem StepOk.mono {c d : Int} (h : c ≤ d) {s : Step} (k : StepOk c s) : StepOk d s :=
  ⟨k.recipe, k.tools, k.asct, k.least, k.most, k.next, asc_mono h k.ascn, by have := k.back; omega⟩
theorem vWin_iff {c : Int} {w : Win} : vWin c w = true ↔ (0 ≤ w.src ∧ w.src < c) ∧ (0 ≤ w.dst ∧ w.dst < c) ∧ w.src ≠ w.dst ∧ 0 ≤ w.limit ∧ w.limit ≤ 1000000 := by
  unfold vWin; simp [within_iff]; omega
theorem vMoves_iff {a b : Int} : vMoves a b = true ↔ 0 ≤ a ∧ a ≤ b ∧ b ≤ 10000 := by unfold vMoves; simp [within_iff]; omega

/-! ### a list's text -/
theorem nums_no {l : List Int} (h : ∀ x ∈ l, 0 ≤ x) : (32 : UInt8) ∉ nums l := by
  unfold nums
  split
  · decide
  · intro hm
    cases l with
    | nil => simp [join] at hm
    | cons a l =>
      rw [List.map_cons, join_cons] at hm
      rcases List.mem_append.1 hm with hm | hm
      · exact itoa_no (h a (by simp)) (by decide) hm
      · unfold joinTail at hm
        rw [List.mem_flatten] at hm
        obtain ⟨y, hy, hm⟩ := hm
        rw [List.mem_map] at hy
        obtain ⟨z, hz, rfl⟩ := hy
        rw [List.mem_map] at hz
        obtain ⟨x, hx, rfl⟩ := hz
        simp only [List.singleton_append, List.mem_cons] at hm
        rcases hm with hm | hm
        · revert hm; decide
        · exact itoa_no (h x (by simp [hx])) (by decide) hm
theorem numbersOf_itoa : ∀ {l : List Int}, (∀ x ∈ l, 0 ≤ x ∧ x ≤ 1000000000) → numbersOf (l.map itoa) = some l
  | [], _ => rfl
  | a :: l, h => by
    simp only [List.map_cons, numbersOf, number_itoa (h a (by simp)).1 (h a (by simp)).2, Option.bind_some]
    rw [numbersOf_itoa fun x hx => h x (by simp [hx])]; rfl
theorem join_len_ge (c : UInt8) : ∀ (w : List UInt8) (ws : List (List UInt8)), ws.length ≤ (join (w :: ws) [c]).length
  | w, [] => by simp
  | w, x :: ws => by
    rw [join_two]; have := join_len_ge c x ws; simp at this ⊢; omega
theorem numbers_nums {l : List Int} {most : Nat} (h : ∀ x ∈ l, 0 ≤ x ∧ x ≤ 1000000000) (h1 : 1 ≤ l.length) (h2 : l.length ≤ most) : numbers (nums l) most = some l := by
  unfold numbers nums
  cases l with
  | nil => simp at h1
  | cons a l =>
    rw [if_neg (by simp)]
    unfold splitN
    rw [List.map_cons, splitK_join, ← List.map_cons, numbersOf_itoa h]
    · have := join_len_ge 44 (itoa a) (l.map itoa)
      simp at this h2 ⊢; omega
    · intro x hx
      rw [← List.map_cons, List.mem_map] at hx
      obtain ⟨y, hy, rfl⟩ := hx
      exact itoa_no (h y hy).1 (by decide)
theorem nums_hyphen {l : List Int} (h : ∀ x ∈ l, 0 ≤ x) : nums l = [45] ↔ l = [] := by
  unfold nums
  constructor
  · intro hh
    by_cases hl : l = []
    · exact hl
    · rw [if_neg hl] at hh
      cases l with
      | nil => exact absurd rfl hl
      | cons a l =>
        rw [List.map_cons, join_cons] at hh
        have ha := itoa_dig (h a (by simp))
        cases hi : itoa a with
        | nil => exact absurd hi (itoa_ne a)
        | cons b r =>
          rw [hi] at hh ha
          injection hh with hb
          have := ha b (by simp)
          rw [hb] at this; exfalso; revert this; unfold isDig; decide
  · intro hl; rw [if_pos hl]
theorem readNext_nums {l : List Int} (h : ∀ x ∈ l, 0 ≤ x ∧ x ≤ 1000000000) (h2 : l.length ≤ 4) : readNext (nums l) = some l := by
  unfold readNext
  by_cases hl : l = []
  · subst hl; rfl
  · rw [if_neg (by rw [nums_hyphen fun x hx => (h x hx).1]; exact hl)]
    exact numbers_nums h (by cases l <;> simp at hl ⊢) h2

/-! ### the lines -/
theorem readMove_of (f : Flow) {a b : Int} (h : vMoves a b = true) : readMove f (restOf [span a b]) = some ({ f with least := a, most := b }, none) := by
  have h' := vMoves_iff.1 h
  unfold readMove
  rw [two_rest (by omega) (by omega) (by omega) (by omega)]
  simp [h, restOf]
def backWords (s : Step) : List (List UInt8) := if s.back = -1 then [] else [wBack, itoa s.back, wLimit, itoa s.limit]
theorem readBack_of {c : Int} (hc : c ≤ 40) {s : Step} (h : StepOk c s) : readBack (restOf (backWords s)) = some ((s.back, s.limit), none) := by
  unfold backWords
  rcases h.back with ⟨h1, h2⟩ | ⟨h1, h2, h3, h4⟩
  · rw [if_pos h1, h1, h2]; rfl
  · rw [if_neg (by omega)]
    show skip wBack (restOf (wBack :: _)) _ = _
    rw [skip_rest _ _ (by decide), num_rest h1 (by omega), skip_rest _ _ (by decide), num_rest (by omega) (by omega)]
    rfl
theorem readStep_of (f : Flow) {s : Step} {c : Int} (hc : c ≤ 40) (h : StepOk c s) (hv : vSteps 40 (f.steps ++ [s]) = true) :
    readStep f (restOf (itoa f.steps.length :: wRecipe :: itoa s.recipe :: wTools :: nums s.tools :: wTime :: span s.least s.most :: wNext :: nums s.next :: backWords s)) = some ({ f with steps := f.steps ++ [s] }, none) := by
  have hl : f.steps.length + 1 ≤ 40 := by unfold vSteps at hv; simp at hv; omega
  have ht := asc_nonneg (by omega) h.asct
  have hn := asc_nonneg (by omega) h.ascn
  obtain ⟨r1, r2⟩ := h.recipe; obtain ⟨l1, l2⟩ := h.least; have m := h.most
  unfold readStep
  rw [num_rest (by omega) (by omega), if_pos rfl, skip_rest _ _ (by decide), num_rest (by omega) (by omega), skip_rest _ _ (by decide), word_rest _ _ (nums_no fun x hx => (ht x hx).1),
    numbers_nums (fun x hx => ⟨(ht x hx).1, by have := (ht x hx).2; omega⟩) h.tools.1 h.tools.2]
  simp only [Option.bind_some]
  rw [skip_rest _ _ (by decide), two_rest (by omega) (by omega) (by omega) (by omega), skip_rest _ _ (by decide), word_rest _ _ (nums_no fun x hx => (hn x hx).1),
    readNext_nums (fun x hx => ⟨(hn x hx).1, by have := (hn x hx).2; omega⟩) h.next]
  simp only [Option.bind_some]
  rw [readBack_of hc h]
  simp only [Option.bind_some]
  rw [if_pos hv]
theorem readWin_of (f : Flow) {w : Win} (h : vWin 40 w = true) (hv : vWins 40 (f.wins ++ [w]) = true) : readWin f (restOf [itoa w.src, itoa w.dst, itoa w.limit]) = some ({ f with wins := f.wins ++ [w] }, none) := by
  have h' := vWin_iff.1 h
  unfold readWin
  rw [num_rest (by omega) (by omega), num_rest (by omega) (by omega), num_rest (by omega) (by omega), if_pos hv]; rfl
theorem readLine_move (st : St) {a b : Int} (h : vMoves a b = true) (hl : st.last = []) : readLine st (join (moveWords a b) [32]) = some ⟨{ st.flow with least := a, most := b }, wMove⟩ := by
  unfold readLine moveWords
  rw [word_of _ _ (by decide), if_pos rfl, if_pos hl, readMove_of _ h]; rfl
theorem readLine_step (st : St) {s : Step} {c : Int} (hc : c ≤ 40) (h : StepOk c s) (hv : vSteps 40 (st.flow.steps ++ [s]) = true) (hl : st.last = wMove ∨ st.last = wStep) :
    readLine st (join (stepWords st.flow.steps.length s) [32]) = some ⟨{ st.flow with steps := st.flow.steps ++ [s] }, wStep⟩ := by
  unfold readLine
  rw [show stepWords st.flow.steps.length s = wStep :: (itoa st.flow.steps.length :: wRecipe :: itoa s.recipe :: wTools :: nums s.tools :: wTime :: span s.least s.most :: wNext :: nums s.next :: backWords s) from rfl,
    word_of _ _ (by decide), if_neg (by decide), if_pos rfl, if_pos hl, readStep_of _ hc h hv]; rfl
theorem readLine_win (st : St) {w : Win} (h : vWin 40 w = true) (hv : vWins 40 (st.flow.wins ++ [w]) = true) (hl : st.last = wStep ∨ st.last = wWindow) :
    readLine st (join (winWords w) [32]) = some ⟨{ st.flow with wins := st.flow.wins ++ [w] }, wWindow⟩ := by
  unfold readLine winWords
  rw [word_of _ _ (by decide), if_neg (by decide), if_neg (by decide), if_pos rfl, if_pos hl, readWin_of _ h hv]; rfl
end Go.Proofs.YtcaclijkkbhfhaaGreatDoor.Fl
