/-
  Flows on paper: a line that no state takes is the first that is not right.
-/
import Derived.Test.YtblnfcffalaeaaaGreatDoorFlC
import Derived.KernelRfl
namespace Go.Proofs.YtblnfcffalaeaaaGreatDoor.Fl
open Go.Lib

abbrev after (w : List UInt8) (o : Option (Flow × Rest)) : Option St := o.bind fun ⟨f, r⟩ => if r = none then some ⟨f, w⟩ else none
theorem no_if {α : Type} {p : Prop} [Decidable p] {o : Option α} (h : o = none) : (if p then o else none) = none := by split <;> simp [h]
theorem vSteps_last {c : Int} {l : List Step} {s : Step} (h : vSteps c (l ++ [s]) = true) : vStep c s = true ∧ l.length < 40 := by
  unfold vSteps at h
  simp at h
  exact ⟨h.2.2, by omega⟩
theorem vWins_last {c : Int} {l : List Win} {w : Win} (h : vWins c (l ++ [w]) = true) : vWin c w = true := by
  unfold vWins at h
  simp only [Bool.and_eq_true] at h
  exact vWinsFrom_all h.2 w (by simp)
/-- The lines of the statement: none of them is right, wherever it stands. -/
def bad0 : List UInt8 := [115, 116, 101, 112]
def bad1 : List UInt8 := [119, 105, 110, 100, 111, 119, 32, 51, 32, 51, 32, 53]
def bad2 : List UInt8 := [109, 111, 118, 101, 32, 51, 46, 46, 50]
def bad3 : List UInt8 := [115, 116, 101, 112, 32, 57, 57, 32, 114, 101, 99, 105, 112, 101, 32, 49, 32, 116, 111, 111, 108, 115, 32, 49, 32, 116, 105, 109, 101, 32, 49, 46, 46, 49, 32, 110, 101, 120, 116, 32, 45]
def bad4 : List UInt8 := [120]
def bad5 : List UInt8 := [32]
def bad6 : List UInt8 := [119, 105, 110, 100, 111, 119, 32, 48, 32, 49, 32, 54, 48, 32]
def bad7 : List UInt8 := [115, 116, 101, 112, 32, 48, 32, 114, 101, 99, 105, 112, 101, 32, 48, 32, 116, 111, 111, 108, 115, 32, 49, 32, 116, 105, 109, 101, 32, 49, 46, 46, 49, 32, 110, 101, 120, 116, 32, 45]
def bad8 : List UInt8 := [115, 116, 101, 112, 32, 48, 32, 114, 101, 99, 105, 112, 101, 32, 49, 32, 116, 111, 111, 108, 115, 32, 50, 44, 49, 32, 116, 105, 109, 101, 32, 49, 46, 46, 49, 32, 110, 101, 120, 116, 32, 45]
def bad9 : List UInt8 := [115, 116, 101, 112, 32, 48, 32, 114, 101, 99, 105, 112, 101, 32, 49, 32, 116, 111, 111, 108, 115, 32, 49, 32, 116, 105, 109, 101, 32, 48, 46, 46, 49, 32, 110, 101, 120, 116, 32, 45]
def bad10 : List UInt8 := [115, 116, 101, 112, 32, 48, 32, 114, 101, 99, 105, 112, 101, 32, 49, 32, 116, 111, 111, 108, 115, 32, 49, 32, 116, 105, 109, 101, 32, 49, 46, 46, 49, 32, 110, 101, 120, 116, 32, 48, 49]
def bad11 : List UInt8 := [115, 116, 101, 112, 32, 48, 32, 114, 101, 99, 105, 112, 101, 32, 49, 32, 116, 111, 111, 108, 115, 32, 49, 32, 116, 105, 109, 101, 32, 49, 46, 46, 49, 32, 110, 101, 120, 116, 32, 45, 32, 98, 97, 99, 107, 32, 48]
def bad12 : List UInt8 := [115, 116, 101, 112, 32, 48, 32, 114, 101, 99, 105, 112, 101, 32, 49, 32, 116, 111, 111, 108, 115, 32, 49, 32, 116, 105, 109, 101, 32, 49, 46, 46, 49, 32, 110, 101, 120, 116, 32, 45, 32, 98, 97, 99, 107, 32, 48, 32, 108, 105, 109, 105, 116, 32, 48]
def bad13 : List UInt8 := [109, 111, 118, 101, 32, 49, 46, 46, 50, 32]
def bads : List (List UInt8) := [bad0, bad1, bad2, bad3, bad4, bad5, bad6, bad7, bad8, bad9, bad10, bad11, bad12, bad13]
set_option maxRecDepth 100000 in
theorem bad0_no (st : St) : readLine st bad0 = none := by
  have e : readLine st bad0 = after wStep (if st.last = wMove ∨ st.last = wStep then readStep st.flow (none) else none) := by kernel_rfl
  have h : readStep st.flow (none) = none := by
    rfl
  rw [e, h]; split <;> rfl
set_option maxRecDepth 100000 in
theorem bad1_no (st : St) : readLine st bad1 = none := by
  have e : readLine st bad1 = after wWindow (if st.last = wStep ∨ st.last = wWindow then readWin st.flow (some [51, 32, 51, 32, 53]) else none) := by kernel_rfl
  have e2 : readWin st.flow (some [51, 32, 51, 32, 53]) = if vWins 40 (st.flow.wins ++ [⟨3, 3, 5⟩]) = true then some ({ st.flow with wins := st.flow.wins ++ [⟨3, 3, 5⟩] }, none) else none := by kernel_rfl
  have h : readWin st.flow (some [51, 32, 51, 32, 53]) = none := by
    rw [e2, if_neg]; intro h; have := vWins_last h; revert this; decide
  rw [e, h]; split <;> rfl
set_option maxRecDepth 100000 in
theorem bad2_no (st : St) : readLine st bad2 = none := by
  have e : readLine st bad2 = after wMove (if st.last = [] then readMove st.flow (some [51, 46, 46, 50]) else none) := by kernel_rfl
  have h : readMove st.flow (some [51, 46, 46, 50]) = none := by kernel_rfl
  rw [e, h]; split <;> rfl
set_option maxRecDepth 100000 in
theorem bad3_no (st : St) : readLine st bad3 = none := by
  have e : readLine st bad3 = after wStep (if st.last = wMove ∨ st.last = wStep then readStep st.flow (some [57, 57, 32, 114, 101, 99, 105, 112, 101, 32, 49, 32, 116, 111, 111, 108, 115, 32, 49, 32, 116, 105, 109, 101, 32, 49, 46, 46, 49, 32, 110, 101, 120, 116, 32, 45]) else none) := by kernel_rfl
  have h : readStep st.flow (some [57, 57, 32, 114, 101, 99, 105, 112, 101, 32, 49, 32, 116, 111, 111, 108, 115, 32, 49, 32, 116, 105, 109, 101, 32, 49, 46, 46, 49, 32, 110, 101, 120, 116, 32, 45]) = none := by
    have e2 : readStep st.flow (some [57, 57, 32, 114, 101, 99, 105, 112, 101, 32, 49, 32, 116, 111, 111, 108, 115, 32, 49, 32, 116, 105, 109, 101, 32, 49, 46, 46, 49, 32, 110, 101, 120, 116, 32, 45]) = if (99 : Int) = st.flow.steps.length then (if vSteps 40 (st.flow.steps ++ [(⟨1, [1], 1, 1, [], -1, 0⟩ : Step)]) = true then some ({ st.flow with steps := st.flow.steps ++ [(⟨1, [1], 1, 1, [], -1, 0⟩ : Step)] }, none) else none) else none := by kernel_rfl
    rw [e2]
    split
    · rename_i hn; rw [if_neg]; intro h; have := (vSteps_last h).2; omega
    · rfl
  rw [e, h]; split <;> rfl
set_option maxRecDepth 100000 in
theorem bad4_no (st : St) : readLine st bad4 = none := by kernel_rfl
set_option maxRecDepth 100000 in
theorem bad5_no (st : St) : readLine st bad5 = none := by kernel_rfl
set_option maxRecDepth 100000 in
theorem bad6_no (st : St) : readLine st bad6 = none := by
  have e : readLine st bad6 = after wWindow (if st.last = wStep ∨ st.last = wWindow then readWin st.flow (some [48, 32, 49, 32, 54, 48, 32]) else none) := by kernel_rfl
  have e2 : readWin st.flow (some [48, 32, 49, 32, 54, 48, 32]) = if vWins 40 (st.flow.wins ++ [⟨0, 1, 60⟩]) = true then some ({ st.flow with wins := st.flow.wins ++ [⟨0, 1, 60⟩] }, some []) else none := by kernel_rfl
  rw [e, e2]; split
  · split <;> rfl
  · rfl
set_option maxRecDepth 100000 in
theorem bad7_no (st : St) : readLine st bad7 = none := by
  have e : readLine st bad7 = after wStep (if st.last = wMove ∨ st.last = wStep then readStep st.flow (some [48, 32, 114, 101, 99, 105, 112, 101, 32, 48, 32, 116, 111, 111, 108, 115, 32, 49, 32, 116, 105, 109, 101, 32, 49, 46, 46, 49, 32, 110, 101, 120, 116, 32, 45]) else none) := by kernel_rfl
  have h : readStep st.flow (some [48, 32, 114, 101, 99, 105, 112, 101, 32, 48, 32, 116, 111, 111, 108, 115, 32, 49, 32, 116, 105, 109, 101, 32, 49, 46, 46, 49, 32, 110, 101, 120, 116, 32, 45]) = none := by
    have e2 : readStep st.flow (some [48, 32, 114, 101, 99, 105, 112, 101, 32, 48, 32, 116, 111, 111, 108, 115, 32, 49, 32, 116, 105, 109, 101, 32, 49, 46, 46, 49, 32, 110, 101, 120, 116, 32, 45]) = if (0 : Int) = st.flow.steps.length then (if vSteps 40 (st.flow.steps ++ [(⟨0, [1], 1, 1, [], -1, 0⟩ : Step)]) = true then some ({ st.flow with steps := st.flow.steps ++ [(⟨0, [1], 1, 1, [], -1, 0⟩ : Step)] }, none) else none) else none := by kernel_rfl
    rw [e2]
    refine no_if ?_
    rw [if_neg]; intro h; have := (vSteps_last h).1; revert this; decide
  rw [e, h]; split <;> rfl
set_option maxRecDepth 100000 in
theorem bad8_no (st : St) : readLine st bad8 = none := by
  have e : readLine st bad8 = after wStep (if st.last = wMove ∨ st.last = wStep then readStep st.flow (some [48, 32, 114, 101, 99, 105, 112, 101, 32, 49, 32, 116, 111, 111, 108, 115, 32, 50, 44, 49, 32, 116, 105, 109, 101, 32, 49, 46, 46, 49, 32, 110, 101, 120, 116, 32, 45]) else none) := by kernel_rfl
  have h : readStep st.flow (some [48, 32, 114, 101, 99, 105, 112, 101, 32, 49, 32, 116, 111, 111, 108, 115, 32, 50, 44, 49, 32, 116, 105, 109, 101, 32, 49, 46, 46, 49, 32, 110, 101, 120, 116, 32, 45]) = none := by
    have e2 : readStep st.flow (some [48, 32, 114, 101, 99, 105, 112, 101, 32, 49, 32, 116, 111, 111, 108, 115, 32, 50, 44, 49, 32, 116, 105, 109, 101, 32, 49, 46, 46, 49, 32, 110, 101, 120, 116, 32, 45]) = if (0 : Int) = st.flow.steps.length then (if vSteps 40 (st.flow.steps ++ [(⟨1, [2, 1], 1, 1, [], -1, 0⟩ : Step)]) = true then some ({ st.flow with steps := st.flow.steps ++ [(⟨1, [2, 1], 1, 1, [], -1, 0⟩ : Step)] }, none) else none) else none := by kernel_rfl
    rw [e2]
    refine no_if ?_
    rw [if_neg]; intro h; have := (vSteps_last h).1; revert this; decide
  rw [e, h]; split <;> rfl
set_option maxRecDepth 100000 in
theorem bad9_no (st : St) : readLine st bad9 = none := by
  have e : readLine st bad9 = after wStep (if st.last = wMove ∨ st.last = wStep then readStep st.flow (some [48, 32, 114, 101, 99, 105, 112, 101, 32, 49, 32, 116, 111, 111, 108, 115, 32, 49, 32, 116, 105, 109, 101, 32, 48, 46, 46, 49, 32, 110, 101, 120, 116, 32, 45]) else none) := by kernel_rfl
  have h : readStep st.flow (some [48, 32, 114, 101, 99, 105, 112, 101, 32, 49, 32, 116, 111, 111, 108, 115, 32, 49, 32, 116, 105, 109, 101, 32, 48, 46, 46, 49, 32, 110, 101, 120, 116, 32, 45]) = none := by
    have e2 : readStep st.flow (some [48, 32, 114, 101, 99, 105, 112, 101, 32, 49, 32, 116, 111, 111, 108, 115, 32, 49, 32, 116, 105, 109, 101, 32, 48, 46, 46, 49, 32, 110, 101, 120, 116, 32, 45]) = if (0 : Int) = st.flow.steps.length then (if vSteps 40 (st.flow.steps ++ [(⟨1, [1], 0, 1, [], -1, 0⟩ : Step)]) = true then some ({ st.flow with steps := st.flow.steps ++ [(⟨1, [1], 0, 1, [], -1, 0⟩ : Step)] }, none) else none) else none := by kernel_rfl
    rw [e2]
    refine no_if ?_
    rw [if_neg]; intro h; have := (vSteps_last h).1; revert this; decide
  rw [e, h]; split <;> rfl
set_option maxRecDepth 100000 in
theorem bad10_no (st : St) : readLine st bad10 = none := by
  have e : readLine st bad10 = after wStep (if st.last = wMove ∨ st.last = wStep then readStep st.flow (some [48, 32, 114, 101, 99, 105, 112, 101, 32, 49, 32, 116, 111, 111, 108, 115, 32, 49, 32, 116, 105, 109, 101, 32, 49, 46, 46, 49, 32, 110, 101, 120, 116, 32, 48, 49]) else none) := by kernel_rfl
  have h : readStep st.flow (some [48, 32, 114, 101, 99, 105, 112, 101, 32, 49, 32, 116, 111, 111, 108, 115, 32, 49, 32, 116, 105, 109, 101, 32, 49, 46, 46, 49, 32, 110, 101, 120, 116, 32, 48, 49]) = none := by
    have e2 : readStep st.flow (some [48, 32, 114, 101, 99, 105, 112, 101, 32, 49, 32, 116, 111, 111, 108, 115, 32, 49, 32, 116, 105, 109, 101, 32, 49, 46, 46, 49, 32, 110, 101, 120, 116, 32, 48, 49]) = if (0 : Int) = st.flow.steps.length then none else none := by kernel_rfl
    rw [e2]; exact no_if rfl
  rw [e, h]; split <;> rfl
set_option maxRecDepth 100000 in
theorem bad11_no (st : St) : readLine st bad11 = none := by
  have e : readLine st bad11 = after wStep (if st.last = wMove ∨ st.last = wStep then readStep st.flow (some [48, 32, 114, 101, 99, 105, 112, 101, 32, 49, 32, 116, 111, 111, 108, 115, 32, 49, 32, 116, 105, 109, 101, 32, 49, 46, 46, 49, 32, 110, 101, 120, 116, 32, 45, 32, 98, 97, 99, 107, 32, 48]) else none) := by kernel_rfl
  have h : readStep st.flow (some [48, 32, 114, 101, 99, 105, 112, 101, 32, 49, 32, 116, 111, 111, 108, 115, 32, 49, 32, 116, 105, 109, 101, 32, 49, 46, 46, 49, 32, 110, 101, 120, 116, 32, 45, 32, 98, 97, 99, 107, 32, 48]) = none := by
    have e2 : readStep st.flow (some [48, 32, 114, 101, 99, 105, 112, 101, 32, 49, 32, 116, 111, 111, 108, 115, 32, 49, 32, 116, 105, 109, 101, 32, 49, 46, 46, 49, 32, 110, 101, 120, 116, 32, 45, 32, 98, 97, 99, 107, 32, 48]) = if (0 : Int) = st.flow.steps.length then none else none := by kernel_rfl
    rw [e2]; exact no_if rfl
  rw [e, h]; split <;> rfl
set_option maxRecDepth 100000 in
theorem bad12_no (st : St) : readLine st bad12 = none := by
  have e : readLine st bad12 = after wStep (if st.last = wMove ∨ st.last = wStep then readStep st.flow (some [48, 32, 114, 101, 99, 105, 112, 101, 32, 49, 32, 116, 111, 111, 108, 115, 32, 49, 32, 116, 105, 109, 101, 32, 49, 46, 46, 49, 32, 110, 101, 120, 116, 32, 45, 32, 98, 97, 99, 107, 32, 48, 32, 108, 105, 109, 105, 116, 32, 48]) else none) := by kernel_rfl
  have h : readStep st.flow (some [48, 32, 114, 101, 99, 105, 112, 101, 32, 49, 32, 116, 111, 111, 108, 115, 32, 49, 32, 116, 105, 109, 101, 32, 49, 46, 46, 49, 32, 110, 101, 120, 116, 32, 45, 32, 98, 97, 99, 107, 32, 48, 32, 108, 105, 109, 105, 116, 32, 48]) = none := by
    have e2 : readStep st.flow (some [48, 32, 114, 101, 99, 105, 112, 101, 32, 49, 32, 116, 111, 111, 108, 115, 32, 49, 32, 116, 105, 109, 101, 32, 49, 46, 46, 49, 32, 110, 101, 120, 116, 32, 45, 32, 98, 97, 99, 107, 32, 48, 32, 108, 105, 109, 105, 116, 32, 48]) = if (0 : Int) = st.flow.steps.length then (if vSteps 40 (st.flow.steps ++ [(⟨1, [1], 1, 1, [], 0, 0⟩ : Step)]) = true then some ({ st.flow with steps := st.flow.steps ++ [(⟨1, [1], 1, 1, [], 0, 0⟩ : Step)] }, none) else none) else none := by kernel_rfl
    rw [e2]
    refine no_if ?_
    rw [if_neg]; intro h; have := (vSteps_last h).1; revert this; decide
  rw [e, h]; split <;> rfl
set_option maxRecDepth 100000 in
theorem bad13_no (st : St) : readLine st bad13 = none := by
  have e : readLine st bad13 = after wMove (if st.last = [] then readMove st.flow (some [49, 46, 46, 50, 32]) else none) := by kernel_rfl
  have h : readMove st.flow (some [49, 46, 46, 50, 32]) = some ({ st.flow with least := 1, most := 2 }, some []) := by kernel_rfl
  rw [e, h]; split <;> rfl
theorem bads_no : ∀ b ∈ bads, ∀ st, readLine st b = none := by
  intro b hb
  simp only [bads, List.mem_cons, List.not_mem_nil, or_false] at hb
  rcases hb with rfl | rfl | rfl | rfl | rfl | rfl | rfl | rfl | rfl | rfl | rfl | rfl | rfl | rfl
  · exact bad0_no
  · exact bad1_no
  · exact bad2_no
  · exact bad3_no
  · exact bad4_no
  · exact bad5_no
  · exact bad6_no
  · exact bad7_no
  · exact bad8_no
  · exact bad9_no
  · exact bad10_no
  · exact bad11_no
  · exact bad12_no
  · exact bad13_no
theorem bads_clean : ∀ b ∈ bads, ignored b = false ∧ (10 : UInt8) ∉ b ∧ b.length ≤ 100 := by decide
theorem bads_len : bads.length = 14 := rfl

theorem readLines_ok {f : Flow} (hv : valid f = true) : ∃ st, readLines 0 ⟨noFlow, []⟩ (bodies f ++ [[]]) = .ok st := by
  have h := parse_text hv
  unfold parse at h
  rw [lines_text (valid_iff.1 hv)] at h
  cases hr : readLines 0 ⟨noFlow, []⟩ (bodies f ++ [[]]) with
  | error n => rw [hr] at h; cases h
  | ok st => exact ⟨st, rfl⟩
theorem lines_end {b : List UInt8} (h : (10 : UInt8) ∉ b) (more : List UInt8) : lines (b ++ 10 :: more) = b :: lines more := lines_some h
/-- The first line that is not right is named. -/
theorem first_error {f : Flow} (hv : valid f = true) (k : Nat) (hk : k ≤ (bodies f).length) {b : List UInt8} (hb : ∀ st, readLine st b = none) (hi : ignored b = false) (hn : (10 : UInt8) ∉ b) (more : List UInt8) :
    parse (cat ((bodies f).take k) ++ (b ++ 10 :: more)) = .error (k + 1) := by
  obtain ⟨st, hs⟩ := readLines_ok hv
  rw [← List.take_append_drop k (bodies f), List.append_assoc, readLines_append] at hs
  have hno := bodies_no (valid_iff.1 hv)
  have hl : lines (cat ((bodies f).take k) ++ (b ++ 10 :: more)) = (bodies f).take k ++ b :: lines more := by
    rw [lines_cat (fun l h => hno l (List.mem_of_mem_take h)), lines_some hn]
  unfold parse
  rw [hl, readLines_append]
  cases hr : readLines 0 ⟨noFlow, []⟩ ((bodies f).take k) with
  | error n => rw [hr] at hs; cases hs
  | ok st' =>
    simp only [readLines, hi, hb]
    simp [Nat.min_eq_left hk]
end Go.Proofs.YtblnfcffalaeaaaGreatDoor.Fl
