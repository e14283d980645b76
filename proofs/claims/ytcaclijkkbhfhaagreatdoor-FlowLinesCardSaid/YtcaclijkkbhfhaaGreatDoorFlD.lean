/-
  Flows on paper: how long words, lines and texts are.
-/
import Derived.Test.YtcaclijkkbhfhaaGreatDoorFlC
namespace Go.Proofs.YtcaclijkkbhfhaaGreatDoor.Fl
open Go.Lib

theorem join_len_le {c : UInt8} {m : Nat} : ∀ {ws : List (List UInt8)}, (∀ w ∈ ws, w.length ≤ m) → (join ws [c]).length ≤ ws.length * (m + 1)
  | [], _ => by simp [join]
  | [w], h => by rw [join_one]; have := h w (by simp); simp; omega
  | w :: x :: ws, h => by
    rw [join_two]
    have h1 := h w (by simp)
    have h2 := join_len_le (c := c) (ws := x :: ws) (fun y hy => h y (List.mem_cons_of_mem _ hy))
    simp only [List.length_append, List.length_cons] at h2 ⊢
    rw [Nat.succ_mul]; omega
theorem itoa_len10 {n : Int} (h : 0 ≤ n) (h' : n ≤ 1000000) : (itoa n).length ≤ 7 := itoa_length_le (k := 6) h (by omega)
theorem nums_len {l : List Int} (h : ∀ x ∈ l, 0 ≤ x ∧ x ≤ 1000000) (hl : l.length ≤ 8) : (nums l).length ≤ 64 := by
  unfold nums
  split
  · decide
  · have := join_len_le (c := 44) (m := 7) (ws := l.map itoa) (by
      intro w hw
      rw [List.mem_map] at hw
      obtain ⟨x, hx, rfl⟩ := hw
      exact itoa_len10 (h x hx).1 (h x hx).2)
    rw [List.length_map] at this; omega
theorem span_len {a b : Int} (ha : 0 ≤ a ∧ a ≤ 1000000) (hb : 0 ≤ b ∧ b ≤ 1000000) : (span a b).length ≤ 16 := by
  unfold span
  have := itoa_len10 ha.1 ha.2; have := itoa_len10 hb.1 hb.2
  simp; omega
theorem stepWords_len {n : Int} (hn : 0 ≤ n ∧ n ≤ 1000) {c : Int} (hc : c ≤ 40) {s : Step} (h : StepOk c s) : ∀ w ∈ stepWords n s, w.length ≤ 64 := by
  intro w hw
  have ht := asc_nonneg (by omega) h.asct
  have hx := asc_nonneg (by omega) h.ascn
  obtain ⟨r1, r2⟩ := h.recipe; obtain ⟨l1, l2⟩ := h.least; have hm := h.most
  unfold stepWords at hw
  rcases List.mem_append.1 hw with hw | hw
  · simp only [List.mem_cons, List.not_mem_nil, or_false] at hw
    rcases hw with rfl | rfl | rfl | rfl | rfl | rfl | rfl | rfl | rfl | rfl
    · decide
    · exact Nat.le_trans (itoa_len10 hn.1 (by omega)) (by decide)
    · decide
    · exact Nat.le_trans (itoa_len10 (by omega) r2) (by decide)
    · decide
    · exact nums_len (fun x h => ⟨(ht x h).1, by have := (ht x h).2; omega⟩) h.tools.2
    · decide
    · exact Nat.le_trans (span_len (by omega) (by omega)) (by decide)
    · decide
    · exact nums_len (fun x h => ⟨(hx x h).1, by have := (hx x h).2; omega⟩) (by have := h.next; omega)
  · split at hw
    · cases hw
    · rename_i hb
      have h1 : 0 ≤ s.back ∧ s.back ≤ 1000000 ∧ 0 ≤ s.limit ∧ s.limit ≤ 1000000 := by rcases h.back with h | h <;> omega
      simp only [List.mem_cons, List.not_mem_nil, or_false] at hw
      rcases hw with rfl | rfl | rfl | rfl
      · decide
      · exact Nat.le_trans (itoa_len10 h1.1 h1.2.1) (by decide)
      · decide
      · exact Nat.le_trans (itoa_len10 h1.2.2.1 h1.2.2.2) (by decide)
theorem winWords_len {c : Int} (hc : c ≤ 40) {v : Win} (h : vWin c v = true) : ∀ w ∈ winWords v, w.length ≤ 64 := by
  have h' := vWin_iff.1 h
  intro w hw
  simp only [winWords, List.mem_cons, List.not_mem_nil, or_false] at hw
  rcases hw with rfl | rfl | rfl | rfl
  · decide
  · exact Nat.le_trans (itoa_len10 (by omega) (by omega)) (by decide)
  · exact Nat.le_trans (itoa_len10 (by omega) (by omega)) (by decide)
  · exact Nat.le_trans (itoa_len10 (by omega) (by omega)) (by decide)
theorem line_len {ws : List (List UInt8)} (h : ∀ w ∈ ws, w.length ≤ 64) (hl : ws.length ≤ 14) : (line ws).length ≤ 1000 := by
  unfold line
  have := join_len_le (c := 32) h
  simp; omega
theorem stepWords_length (n : Int) (s : Step) : (stepWords n s).length ≤ 14 := by unfold stepWords; split <;> simp
theorem stepWords_ne (n : Int) (s : Step) : stepWords n s ≠ [] := by unfold stepWords; simp
theorem stepLine_len {n : Int} (hn : 0 ≤ n ∧ n ≤ 1000) {c : Int} (hc : c ≤ 40) {s : Step} (h : StepOk c s) : (line (stepWords n s)).length ≤ 1000 := line_len (stepWords_len hn hc h) (stepWords_length n s)
theorem winLine_len {c : Int} (hc : c ≤ 40) {v : Win} (h : vWin c v = true) : (line (winWords v)).length ≤ 1000 := line_len (winWords_len hc h) (by simp [winWords])
theorem flatten_len {m : Nat} : ∀ {ls : List (List UInt8)}, (∀ l ∈ ls, l.length ≤ m) → ls.flatten.length ≤ ls.length * m
  | [], _ => by simp
  | l :: ls, h => by
    have h1 := h l (by simp)
    have h2 := flatten_len (ls := ls) (fun x hx => h x (by simp [hx]))
    simp only [List.flatten_cons, List.length_append, List.length_cons, Nat.succ_mul]; omega
theorem join_flat : ∀ (ls : List (List UInt8)), join ls [] = ls.flatten
  | [] => rfl
  | l :: ls => by
    rw [join_cons]
    unfold joinTail
    simp
/-- The lines of the steps, one by one. -/
def stepShow (l : List Step) : List (List UInt8) := (l.zipIdx).map fun p => line (stepWords p.2 p.1)
theorem stepLines_show (l : List Step) : stepLines 0 l = (stepShow l).flatten := by
  have : ∀ (n : Nat) (l : List Step), stepLines n l = ((l.zipIdx n).map fun p => line (stepWords p.2 p.1)).flatten := by
    intro n l
    induction l generalizing n with
    | nil => rfl
    | cons s l ih =>
      simp only [stepLines, List.zipIdx_cons, List.map_cons, List.flatten_cons]
      have := ih (n + 1)
      rw [show ((n + 1 : Nat) : Int) = (n : Int) + 1 by omega] at this
      rw [this]
  exact this 0 l
theorem stepShow_length (l : List Step) : (stepShow l).length = l.length := by simp [stepShow]
theorem stepShow_get (l : List Step) (i : Nat) (h : i < l.length) : (stepShow l)[i]'(by rw [stepShow_length]; exact h) = line (stepWords i l[i]) := by simp [stepShow]
end Go.Proofs.YtcaclijkkbhfhaaGreatDoor.Fl
