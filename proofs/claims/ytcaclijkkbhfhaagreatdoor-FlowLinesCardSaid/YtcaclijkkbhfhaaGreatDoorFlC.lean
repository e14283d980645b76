/-
  Flows on paper: the lines of a text; a valid flow's text is parsed into it, and is short.
-/
import Derived.Test.YtcaclijkkbhfhaaGreatDoorFlB
namespace Go.Proofs.YtcaclijkkbhfhaaGreatDoor.Fl
open Go.Lib

theorem lines_ne (s : List UInt8) : lines s ≠ [] := by
  cases s with
  | nil => simp [lines]
  | cons c s =>
    unfold lines; split
    · simp
    · split <;> simp
theorem lines_none {s : List UInt8} (h : (10 : UInt8) ∉ s) : lines s = [s] := by
  induction s with
  | nil => rfl
  | cons c s ih =>
    simp only [List.mem_cons, not_or] at h
    unfold lines
    rw [if_neg (fun e => h.1 e.symm), ih h.2]
theorem lines_some {a b : List UInt8} (h : (10 : UInt8) ∉ a) : lines (a ++ 10 :: b) = a :: lines b := by
  induction a with
  | nil => simp [lines]
  | cons c a ih =>
    simp only [List.mem_cons, not_or] at h
    rw [List.cons_append, lines, if_neg (fun e => h.1 e.symm), ih h.2]
theorem lines_cut (s : List UInt8) : lines s = (cut s [10]).1 :: (if (cut s [10]).2.2 = true then lines (cut s [10]).2.1 else []) := by
  rcases cut_cases s 10 with ⟨h, e⟩ | ⟨a, b, h, e1, e2⟩
  · rw [e, lines_none h]; rfl
  · rw [e2, e1, lines_some h]; rfl

theorem span_no10 {a b : Int} (ha : 0 ≤ a) (hb : 0 ≤ b) : (10 : UInt8) ∉ span a b := span_no ha hb (by decide)
theorem nums_noc {l : List Int} (h : ∀ x ∈ l, 0 ≤ x) {c : UInt8} (hc : c.toNat < 44) : c ∉ nums l := by
  unfold nums
  split
  · intro hm; simp only [List.mem_cons, List.not_mem_nil, or_false] at hm; subst hm; revert hc; decide
  · intro hm
    cases l with
    | nil => simp [join] at hm
    | cons a l =>
      rw [List.map_cons, join_cons] at hm
      rcases List.mem_append.1 hm with hm | hm
      · exact itoa_no (h a (by simp)) (by omega) hm
      · unfold joinTail at hm
        rw [List.mem_flatten] at hm
        obtain ⟨y, hy, hm⟩ := hm
        rw [List.mem_map] at hy
        obtain ⟨z, hz, rfl⟩ := hy
        rw [List.mem_map] at hz
        obtain ⟨x, hx, rfl⟩ := hz
        simp only [List.singleton_append, List.mem_cons] at hm
        rcases hm with hm | hm
        · subst hm; revert hc; decide
        · exact itoa_no (h x (by simp [hx])) (by omega) hm
theorem join_no {c : UInt8} {sep : UInt8} (hs : c ≠ sep) : ∀ {ws : List (List UInt8)}, (∀ w ∈ ws, c ∉ w) → c ∉ join ws [sep]
  | [], _ => by simp [join]
  | [w], h => by rw [join_one]; exact h w (by simp)
  | w :: x :: ws, h => by
    rw [join_two]
    intro hm
    simp only [List.mem_append, List.mem_cons] at hm
    rcases hm with hm | hm | hm
    · exact h w (by simp) hm
    · exact hs hm
    · exact join_no hs (ws := x :: ws) (fun y hy => h y (List.mem_cons_of_mem _ hy)) hm
theorem moveWords_no {a b : Int} (h : vMoves a b = true) : ∀ w ∈ moveWords a b, (10 : UInt8) ∉ w := by
  have h' := vMoves_iff.1 h
  intro w hw
  simp only [moveWords, List.mem_cons, List.not_mem_nil, or_false] at hw
  rcases hw with rfl | rfl
  · decide
  · exact span_no10 (by omega) (by omega)
theorem stepWords_no {n : Int} (hn : 0 ≤ n) {c : Int} {s : Step} (h : StepOk c s) : ∀ w ∈ stepWords n s, (10 : UInt8) ∉ w := by
  intro w hw
  have ht := asc_nonneg (by omega) h.asct
  have hx := asc_nonneg (by omega) h.ascn
  obtain ⟨r1, r2⟩ := h.recipe; obtain ⟨l1, l2⟩ := h.least
  have i10 : ∀ {n : Int}, 0 ≤ n → (10 : UInt8) ∉ itoa n := fun h => itoa_no h (by decide)
  unfold stepWords at hw
  rcases List.mem_append.1 hw with hw | hw
  · simp only [List.mem_cons, List.not_mem_nil, or_false] at hw
    rcases hw with rfl | rfl | rfl | rfl | rfl | rfl | rfl | rfl | rfl | rfl
    · decide
    · exact i10 hn
    · decide
    · exact i10 (by omega)
    · decide
    · exact nums_noc (fun x hx => (ht x hx).1) (by decide)
    · decide
    · exact span_no10 (by omega) (by omega)
    · decide
    · exact nums_noc (fun x hy => (hx x hy).1) (by decide)
  · split at hw
    · cases hw
    · rename_i hb
      have h1 : 0 ≤ s.back ∧ 0 ≤ s.limit := by rcases h.back with h | h <;> omega
      simp only [List.mem_cons, List.not_mem_nil, or_false] at hw
      rcases hw with rfl | rfl | rfl | rfl
      · decide
      · exact i10 h1.1
      · decide
      · exact i10 h1.2
theorem winWords_no {c : Int} {w : Win} (h : vWin c w = true) : ∀ x ∈ winWords w, (10 : UInt8) ∉ x := by
  have h' := vWin_iff.1 h
  intro x hw
  have i10 : ∀ {n : Int}, 0 ≤ n → (10 : UInt8) ∉ itoa n := fun h => itoa_no h (by decide)
  simp only [winWords, List.mem_cons, List.not_mem_nil, or_false] at hw
  rcases hw with rfl | rfl | rfl | rfl
  · decide
  · exact i10 (by omega)
  · exact i10 (by omega)
  · exact i10 (by omega)

/-- The lines of a flow's text, but for the last, which is empty. -/
def stepBodies : Int → List Step → List (List UInt8)
  | _, [] => []
  | n, s :: l => join (stepWords n s) [32] :: stepBodies (n + 1) l
def bodies (f : Flow) : List (List UInt8) := join (moveWords f.least f.most) [32] :: (stepBodies 0 f.steps ++ f.wins.map fun w => join (winWords w) [32])
def cat (ls : List (List UInt8)) : List UInt8 := (ls.map (· ++ [10])).flatten
theorem stepLines_cat : ∀ (n : Int) (l : List Step), stepLines n l = cat (stepBodies n l)
  | _, [] => rfl
  | n, s :: l => by simp only [stepLines, stepBodies, cat, List.map_cons, List.flatten_cons, line]; rw [stepLines_cat (n + 1) l]; rfl
theorem cat_append (a b : List (List UInt8)) : cat (a ++ b) = cat a ++ cat b := by simp [cat]
theorem cat_cons (a : List UInt8) (b : List (List UInt8)) : cat (a :: b) = a ++ 10 :: cat b := by simp [cat]
theorem text_cat (f : Flow) : text f = cat (bodies f) := by
  unfold text bodies
  rw [cat_cons, cat_append, stepLines_cat]
  simp only [line, List.append_assoc, List.cons_append, List.nil_append]
  congr 3
  simp [cat, Function.comp_def]
theorem lines_cat : ∀ {ls : List (List UInt8)}, (∀ l ∈ ls, (10 : UInt8) ∉ l) → ∀ (t : List UInt8), lines (cat ls ++ t) = ls ++ lines t
  | [], _, t => by simp [cat]
  | l :: ls, h, t => by
    rw [cat_cons, List.append_assoc, List.cons_append, lines_some (h l (by simp)), lines_cat (fun x hx => h x (by simp [hx])) t]; rfl
theorem stepBodies_no {c : Int} : ∀ {n : Int} {l : List Step}, 0 ≤ n → (∀ s ∈ l, StepOk c s) → ∀ x ∈ stepBodies n l, (10 : UInt8) ∉ x
  | _, [], _, _ => by simp [stepBodies]
  | n, s :: l, hn, h => by
    intro x hx
    simp only [stepBodies, List.mem_cons] at hx
    rcases hx with rfl | hx
    · exact join_no (by decide) (stepWords_no hn (h s (by simp)))
    · exact stepBodies_no (by omega) (fun s hs => h s (by simp [hs])) x hx

structure Ok (f : Flow) : Prop where
  moves : vMoves f.least f.most = true
  pos : 0 < f.steps.length
  len : f.steps.length ≤ 40
  steps : ∀ s ∈ f.steps, StepOk f.steps.length s
  wlen : f.wins.length ≤ 20
  wins : vWinsFrom f.steps.length none f.wins = true
theorem valid_iff {f : Flow} : valid f = true ↔ Ok f := by
  unfold valid vSteps vWins
  simp only [Bool.and_eq_true, decide_eq_true_eq, List.all_eq_true, vStep_iff]
  exact ⟨fun ⟨⟨⟨h1, h2⟩, h3, h4⟩, h5, h6⟩ => ⟨h1, h2, h3, h4, h5, h6⟩, fun ⟨h1, h2, h3, h4, h5, h6⟩ => ⟨⟨⟨h1, h2⟩, h3, h4⟩, h5, h6⟩⟩
theorem vWinsFrom_all {c : Int} : ∀ {o : Option Win} {l : List Win}, vWinsFrom c o l = true → ∀ w ∈ l, vWin c w = true
  | _, [], _ => by simp
  | none, w :: l, h => by
    simp only [vWinsFrom, Bool.and_eq_true] at h
    intro x hx
    rcases List.mem_cons.1 hx with rfl | hx
    · exact h.1
    · exact vWinsFrom_all h.2 x hx
  | some v, w :: l, h => by
    simp only [vWinsFrom, Bool.and_eq_true] at h
    intro x hx
    rcases List.mem_cons.1 hx with rfl | hx
    · exact h.1.1
    · exact vWinsFrom_all h.2 x hx
theorem vWin_mono {c d : Int} (h : c ≤ d) {w : Win} (k : vWin c w = true) : vWin d w = true := by
  rw [vWin_iff] at k ⊢; omega
theorem vWinsFrom_mono {c d : Int} (h : c ≤ d) : ∀ {o : Option Win} {l : List Win}, vWinsFrom c o l = true → vWinsFrom d o l = true
  | _, [], _ => by simp [vWinsFrom]
  | none, w :: l, k => by
    simp only [vWinsFrom, Bool.and_eq_true] at k ⊢
    exact ⟨vWin_mono h k.1, vWinsFrom_mono h k.2⟩
  | some v, w :: l, k => by
    simp only [vWinsFrom, Bool.and_eq_true] at k ⊢
    exact ⟨⟨vWin_mono h k.1.1, k.1.2⟩, vWinsFrom_mono h k.2⟩
theorem vWinsFrom_left {c : Int} : ∀ {o : Option Win} {a b : List Win}, vWinsFrom c o (a ++ b) = true → vWinsFrom c o a = true
  | _, [], _, _ => by simp [vWinsFrom]
  | none, w :: l, b, k => by
    simp only [List.cons_append, vWinsFrom, Bool.and_eq_true] at k ⊢
    exact ⟨k.1, vWinsFrom_left k.2⟩
  | some v, w :: l, b, k => by
    simp only [List.cons_append, vWinsFrom, Bool.and_eq_true] at k ⊢
    exact ⟨k.1, vWinsFrom_left k.2⟩
theorem bodies_no {f : Flow} (h : Ok f) : ∀ l ∈ bodies f, (10 : UInt8) ∉ l := by
  intro l hl
  unfold bodies at hl
  simp only [List.mem_cons, List.mem_append, List.mem_map] at hl
  rcases hl with rfl | hl | ⟨w, hw, rfl⟩
  · exact join_no (by decide) (moveWords_no h.moves)
  · exact stepBodies_no (by omega) h.steps l hl
  · exact join_no (by decide) (winWords_no (vWinsFrom_all h.wins w hw))
theorem lines_text {f : Flow} (h : Ok f) : lines (text f) = bodies f ++ [[]] := by
  have := lines_cat (bodies_no h) []
  rw [List.append_nil, ← text_cat] at this
  exact this

/-! ### the text is read -/
theorem not_ignored {c : UInt8} {l : List UInt8} (h : c ≠ 35) : ignored (c :: l) = false := by unfold ignored; simp [h]
theorem join_head (c : UInt8) (w : List UInt8) (ws : List (List UInt8)) : ∃ t, join ((c :: w) :: ws) [32] = c :: t := by
  rw [join_cons]; exact ⟨_, rfl⟩
theorem readLines_append (a b : List (List UInt8)) : ∀ (n : Nat) (st : St), readLines n st (a ++ b) = match readLines n st a with | .error e => .error e | .ok st' => readLines (n + a.length) st' b := by
  induction a with
  | nil => intro n st; rfl
  | cons l a ih =>
    intro n st
    simp only [List.cons_append, readLines]
    split
    · rw [ih]; simp only [List.length_cons]; rw [Nat.add_assoc, Nat.add_comm 1]
    · split
      · rfl
      · rw [ih]; simp only [List.length_cons]; rw [Nat.add_assoc, Nat.add_comm 1]
theorem readLines_steps {c : Int} (hc : c ≤ 40) : ∀ (l : List Step) (n : Nat) (st : St), (∀ s ∈ st.flow.steps ++ l, StepOk c s) → st.flow.steps.length + l.length ≤ 40 → st.last = wMove ∨ st.last = wStep →
    readLines n st (stepBodies st.flow.steps.length l) = .ok ⟨{ st.flow with steps := st.flow.steps ++ l }, if l = [] then st.last else wStep⟩
  | [], n, st, _, _, _ => by simp [stepBodies, readLines]
  | s :: l, n, st, h, hlen, hl => by
    have hs := h s (by simp)
    have hv : vSteps 40 (st.flow.steps ++ [s]) = true := by
      unfold vSteps
      simp only [Bool.and_eq_true, decide_eq_true_eq, List.all_eq_true, vStep_iff]
      refine ⟨by simp at hlen ⊢; omega, fun x hx => ?_⟩
      refine (h x ?_).mono hc
      simp at hx ⊢; rcases hx with h | h
      · exact .inl h
      · exact .inr (.inl h)
    have hr := readLine_step st hc hs hv hl
    have hi : ignored (join (stepWords st.flow.steps.length s) [32]) = false := by
      obtain ⟨t, ht⟩ := join_head 115 [116, 101, 112] (itoa st.flow.steps.length :: wRecipe :: itoa s.recipe :: wTools :: nums s.tools :: wTime :: span s.least s.most :: wNext :: nums s.next :: backWords s)
      rw [show stepWords st.flow.steps.length s = (115 :: [116, 101, 112]) :: (itoa st.flow.steps.length :: wRecipe :: itoa s.recipe :: wTools :: nums s.tools :: wTime :: span s.least s.most :: wNext :: nums s.next :: backWords s) from rfl, ht]
      exact not_ignored (by decide)
    simp only [stepBodies, readLines, hi, hr, Bool.false_eq_true, if_false]
    have ih := readLines_steps hc l (n + 1) ⟨{ st.flow with steps := st.flow.steps ++ [s] }, wStep⟩ (by simpa using h) (by simp at hlen ⊢; omega) (.inr rfl)
    have e1 : ((st.flow.steps ++ [s]).length : Int) = (st.flow.steps.length : Int) + 1 := by simp
    rw [e1] at ih
    rw [ih]
    simp
theorem readLines_wins : ∀ (l : List Win) (n : Nat) (st : St), vWins 40 (st.flow.wins ++ l) = true → st.last = wStep ∨ st.last = wWindow →
    readLines n st (l.map fun w => join (winWords w) [32]) = .ok ⟨{ st.flow with wins := st.flow.wins ++ l }, if l = [] then st.last else wWindow⟩
  | [], n, st, _, _ => by simp [readLines]
  | w :: l, n, st, h, hl => by
    have hv : vWins 40 (st.flow.wins ++ [w]) = true := by
      unfold vWins at h ⊢
      simp only [Bool.and_eq_true, decide_eq_true_eq] at h ⊢
      refine ⟨by simp at h ⊢; omega, ?_⟩
      have := h.2
      rw [show st.flow.wins ++ w :: l = (st.flow.wins ++ [w]) ++ l by simp] at this
      exact vWinsFrom_left this
    have hw : vWin 40 w = true := by
      unfold vWins at hv; simp only [Bool.and_eq_true] at hv
      exact vWinsFrom_all hv.2 w (by simp)
    have hr := readLine_win st hw hv hl
    have hi : ignored (join (winWords w) [32]) = false := by
      obtain ⟨t, ht⟩ := join_head 119 [105, 110, 100, 111, 119] [itoa w.src, itoa w.dst, itoa w.limit]
      rw [show winWords w = (119 :: [105, 110, 100, 111, 119]) :: [itoa w.src, itoa w.dst, itoa w.limit] from rfl, ht]
      exact not_ignored (by decide)
    simp only [List.map_cons, readLines, hi, hr, Bool.false_eq_true, if_false]
    have ih := readLines_wins l (n + 1) ⟨{ st.flow with wins := st.flow.wins ++ [w] }, wWindow⟩ (by simpa using h) (.inr rfl)
    rw [ih]
    simp
theorem parse_text {f : Flow} (hv : valid f = true) : parse (text f) = .ok f := by
  have h := valid_iff.1 hv
  unfold parse
  rw [lines_text h]
  have hm := readLine_move ⟨noFlow, []⟩ h.moves rfl
  have hi : ignored (join (moveWords f.least f.most) [32]) = false := by
    obtain ⟨t, ht⟩ := join_head 109 [111, 118, 101] [span f.least f.most]
    rw [show moveWords f.least f.most = (109 :: [111, 118, 101]) :: [span f.least f.most] from rfl, ht]
    exact not_ignored (by decide)
  have hs := readLines_steps (c := f.steps.length) (by have := h.len; omega) f.steps 1 ⟨{ noFlow with least := f.least, most := f.most }, wMove⟩ (by simpa [noFlow] using h.steps) (by simpa [noFlow] using h.len) (.inl rfl)
  have hne : f.steps ≠ [] := by intro e; have := h.pos; rw [e] at this; simp at this
  have e0 : (([] : List Step).length : Int) = 0 := rfl
  simp only [noFlow, e0, List.nil_append, if_neg hne] at hs
  have hw := readLines_wins f.wins (1 + f.steps.length) ⟨⟨f.least, f.most, f.steps, []⟩, wStep⟩ (by
    unfold vWins; simp only [List.nil_append, Bool.and_eq_true, decide_eq_true_eq]
    exact ⟨h.wlen, vWinsFrom_mono (by have := h.len; omega) h.wins⟩) (.inl rfl)
  have hl : ∀ (n : Int) (l : List Step), (stepBodies n l).length = l.length := by
    intro n l; induction l generalizing n with
    | nil => rfl
    | cons s l ih => simp [stepBodies, ih]
  have e : readLines 0 ⟨noFlow, []⟩ (bodies f ++ [[]]) = .ok ⟨f, if f.wins = [] then wStep else wWindow⟩ := by
    unfold bodies
    rw [List.cons_append, readLines, if_neg (by rw [hi]; decide), hm]
    simp only [Nat.zero_add]
    rw [List.append_assoc, readLines_append]
    simp only [noFlow] at hs ⊢
    rw [hs]
    simp only [hl]
    rw [readLines_append, hw]
    simp [readLines, ignored]
  rw [e]
  simp [hv]
theorem text_inj {f g : Flow} (hf : valid f = true) (hg : valid g = true) (h : text f = text g) : f = g := by
  have h1 := parse_text hf
  rw [h, parse_text hg] at h1
  injection h1 with h1; exact h1.symm
end Go.Proofs.YtcaclijkkbhfhaaGreatDoor.Fl
