/-
  Flows on paper: lines that are ignored, put into a text, change nothing but the numbers of lines.
-/
import Derived.Test.YtcaclijkkbhfhaaGreatDoorFlR
namespace Go.Proofs.YtcaclijkkbhfhaaGreatDoor.Fl
open Go.Lib

/-- What is put ahead of a line, and the line, where it is not left out. -/
abbrev Item := List (List UInt8) × Option (List UInt8)
def fullOf (I : List Item) : List (List UInt8) := I.flatMap fun x => x.1 ++ x.2.toList
def plainOf (I : List Item) : List (List UInt8) := I.filterMap (·.2)
/-- The numbers that the lines of the plain text have in the full one; n lines stand ahead. -/
def placesOf : Nat → List Item → List Nat
  | _, [] => []
  | n, (ms, none) :: r => placesOf (n + ms.length) r
  | n, (ms, some _) :: r => (n + ms.length + 1) :: placesOf (n + ms.length + 1) r
theorem placesOf_length : ∀ (n : Nat) (I : List Item), (placesOf n I).length = (plainOf I).length
  | _, [] => rfl
  | n, (ms, none) :: r => by simp only [placesOf, plainOf, List.filterMap_cons]; exact placesOf_length _ r
  | n, (ms, some _) :: r => by simp only [placesOf, plainOf, List.filterMap_cons, List.length_cons]; rw [placesOf_length _ r]; rfl
theorem readLines_skip : ∀ (ms : List (List UInt8)) (n : Nat) (st : St), (∀ l ∈ ms, ignored l = true) → readLines n st ms = .ok st
  | [], _, _, _ => rfl
  | l :: ms, n, st, h => by rw [readLines, if_pos (h l (by simp))]; exact readLines_skip ms _ st (fun x hx => h x (by simp [hx]))
theorem ins_read : ∀ (I : List Item) (n m : Nat) (st : St), (∀ x ∈ I, ∀ l ∈ x.1, ignored l = true) →
    (∃ st', readLines m st (plainOf I) = .ok st' ∧ readLines n st (fullOf I) = .ok st') ∨ ∃ j e, readLines m st (plainOf I) = .error (m + j + 1) ∧ (placesOf n I)[j]? = some e ∧ readLines n st (fullOf I) = .error e
  | [], n, m, st, _ => .inl ⟨st, rfl, rfl⟩
  | (ms, none) :: r, n, m, st, h => by
    have h1 := readLines_skip ms n st (fun l hl => h (ms, none) (by simp) l hl)
    have h2 := ins_read r (n + ms.length) m st (fun x hx => h x (by simp [hx]))
    have e1 : plainOf ((ms, none) :: r) = plainOf r := rfl
    have e2 : readLines n st (fullOf ((ms, none) :: r)) = readLines (n + ms.length) st (fullOf r) := by
      show readLines n st ((ms ++ []) ++ fullOf r) = _
      rw [List.append_nil, readLines_append, h1]
    rw [e1, e2]; exact h2
  | (ms, some l) :: r, n, m, st, h => by
    have h1 := readLines_skip ms n st (fun x hx => h (ms, some l) (by simp) x hx)
    have e1 : plainOf ((ms, some l) :: r) = l :: plainOf r := rfl
    have e2 : readLines n st (fullOf ((ms, some l) :: r)) = readLines (n + ms.length) st (l :: fullOf r) := by
      show readLines n st ((ms ++ [l]) ++ fullOf r) = _
      rw [List.append_assoc, readLines_append, h1]; rfl
    rw [e1, e2]
    have ih := fun st' => ins_read r (n + ms.length + 1) (m + 1) st' (fun x hx => h x (by simp [hx]))
    have lift : ∀ st', ((∃ s, readLines (m + 1) st' (plainOf r) = .ok s ∧ readLines (n + ms.length + 1) st' (fullOf r) = .ok s) ∨ ∃ j e, readLines (m + 1) st' (plainOf r) = .error (m + 1 + j + 1) ∧ (placesOf (n + ms.length + 1) r)[j]? = some e ∧ readLines (n + ms.length + 1) st' (fullOf r) = .error e) →
        ((∃ s, readLines (m + 1) st' (plainOf r) = .ok s ∧ readLines (n + ms.length + 1) st' (fullOf r) = .ok s) ∨ ∃ j e, readLines (m + 1) st' (plainOf r) = .error (m + j + 1) ∧ (placesOf n ((ms, some l) :: r))[j]? = some e ∧ readLines (n + ms.length + 1) st' (fullOf r) = .error e) := by
      rintro st' (h | ⟨j, e, q1, q2, q3⟩)
      · exact .inl h
      · exact .inr ⟨j + 1, e, by rw [q1]; congr 1; omega, by simpa [placesOf] using q2, q3⟩
    unfold readLines
    split
    · exact lift st (ih st)
    · split
      · exact .inr ⟨0, n + ms.length + 1, rfl, by simp [placesOf], rfl⟩
      · exact lift _ (ih _)
/-- The two texts, read. -/
theorem ins_parse (I : List Item) (hi : ∀ x ∈ I, ∀ l ∈ x.1, ignored l = true) (h1 : ∀ l ∈ plainOf I, (10 : UInt8) ∉ l) (h2 : ∀ l ∈ fullOf I, (10 : UInt8) ∉ l) :
    lines (cat (plainOf I)) = plainOf I ++ [[]] ∧ lines (cat (fullOf I)) = fullOf I ++ [[]] ∧
    ((∃ f, parse (cat (plainOf I)) = .ok f ∧ parse (cat (fullOf I)) = .ok f) ∨
     (∃ j e, parse (cat (plainOf I)) = .error (j + 1) ∧ (placesOf 0 I)[j]? = some e ∧ parse (cat (fullOf I)) = .error e) ∨
     (parse (cat (plainOf I)) = .error ((plainOf I).length + 1) ∧ parse (cat (fullOf I)) = .error ((fullOf I).length + 1))) := by
  have l1 : lines (cat (plainOf I)) = plainOf I ++ [[]] := by have := lines_cat h1 []; rwa [List.append_nil] at this
  have l2 : lines (cat (fullOf I)) = fullOf I ++ [[]] := by have := lines_cat h2 []; rwa [List.append_nil] at this
  refine ⟨l1, l2, ?_⟩
  have last : ∀ n st, readLines n st [[]] = .ok st := fun n st => rfl
  unfold parse
  rw [l1, l2, readLines_append, readLines_append]
  rcases ins_read I 0 0 ⟨noFlow, []⟩ hi with ⟨st, q1, q2⟩ | ⟨j, e, q1, q2, q3⟩
  · rw [q1, q2]
    simp only [last]
    by_cases hv : valid st.flow = true
    · simp only [hv, if_true]; exact .inl ⟨_, rfl, rfl⟩
    · simp only [hv]; exact .inr (.inr ⟨by simp, by simp⟩)
  · rw [q1, q3]
    exact .inr (.inl ⟨j, e, by simp, q2, rfl⟩)
end Go.Proofs.YtcaclijkkbhfhaaGreatDoor.Fl
