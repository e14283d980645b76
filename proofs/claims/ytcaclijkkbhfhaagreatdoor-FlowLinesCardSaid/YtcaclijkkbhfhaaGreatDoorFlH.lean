/-
  Flows on paper: a valid flow's text has at most 8192 bytes.
-/
import Derived.Test.YtcaclijkkbhfhaaGreatDoorFlD
namespace Go.Proofs.YtcaclijkkbhfhaaGreatDoor.Fl
open Go.Lib

theorem nums_len4 {l : List Int} (h : ∀ x ∈ l, 0 ≤ x ∧ x ≤ 1000000) (hl : l.length ≤ 4) : (nums l).length ≤ 32 := by
  unfold nums
  split
  · simp
  · have h1 := join_len_le (c := 44) (m := 7) (ws := l.map itoa) (fun w hw => by
      obtain ⟨x, hx, rfl⟩ := List.mem_map.1 hw
      exact itoa_len10 (h x hx).1 (h x hx).2)
    rw [List.length_map] at h1; omega
theorem joinTail_len (ws : List (List UInt8)) : (joinTail [32] ws).length = (ws.map fun w => w.length + 1).sum := by
  unfold joinTail
  induction ws with
  | nil => rfl
  | cons w ws ih => simp only [List.map_cons, List.flatten_cons, List.length_append, List.sum_cons, ih]; simp; omega
theorem line_length (w : List UInt8) (ws : List (List UInt8)) : (line (w :: ws)).length = w.length + (ws.map fun w => w.length + 1).sum + 1 := by
  unfold line
  rw [join_cons, List.length_append, List.length_append, joinTail_len]; rfl
theorem stepLine_short {n : Int} (hn : 0 ≤ n ∧ n ≤ 1000) {c : Int} (hc : c ≤ 40) {s : Step} (h : StepOk c s) : (line (stepWords n s)).length ≤ 186 := by
  have ht := asc_nonneg (by omega) h.asct
  have hx := asc_nonneg (by omega) h.ascn
  obtain ⟨r1, r2⟩ := h.recipe; obtain ⟨l1, l2⟩ := h.least; have l3 := h.most
  have a1 := itoa_len10 (n := n) hn.1 (by omega)
  have a2 := itoa_len10 (n := s.recipe) (by omega) (by omega)
  have a3 := nums_len (l := s.tools) (fun x h => by have := ht x h; omega) h.tools.2
  have a4 := span_len (a := s.least) (b := s.most) (by omega) (by omega)
  have a5 := nums_len4 (l := s.next) (fun x h => by have := hx x h; omega) h.next
  unfold stepWords
  split
  · simp only [List.append_nil, line_length, wStep, wRecipe, wTools, wTime, wNext, List.map_cons, List.map_nil, List.sum_cons, List.sum_nil, List.length_cons, List.length_nil]
    omega
  · have h1 : 0 ≤ s.back ∧ s.back < 40 ∧ 0 ≤ s.limit ∧ s.limit ≤ 9 := by rcases h.back with h | h <;> omega
    have a6 := itoa_len10 (n := s.back) (by omega) (by omega)
    have a7 := itoa_len10 (n := s.limit) (by omega) (by omega)
    simp only [List.cons_append, List.nil_append, line_length, wStep, wRecipe, wTools, wTime, wNext, wBack, wLimit, List.map_cons, List.map_nil, List.sum_cons, List.sum_nil, List.length_cons, List.length_nil]
    omega
theorem winLine_short {c : Int} (hc : c ≤ 40) {v : Win} (h : vWin c v = true) : (line (winWords v)).length ≤ 32 := by
  have h' := vWin_iff.1 h
  have a1 := itoa_len10 (n := v.src) (by omega) (by omega)
  have a2 := itoa_len10 (n := v.dst) (by omega) (by omega)
  have a3 := itoa_len10 (n := v.limit) (by omega) (by omega)
  simp only [winWords, line_length, wWindow, List.map_cons, List.map_nil, List.sum_cons, List.sum_nil, List.length_cons, List.length_nil]
  omega
theorem text_short {f : Flow} (hv : valid f = true) : (text f).length ≤ 8192 := by
  have h := valid_iff.1 hv
  have hl := h.len
  have hm := vMoves_iff.1 h.moves
  have a1 := span_len (a := f.least) (b := f.most) (by omega) (by omega)
  have m1 : (line (moveWords f.least f.most)).length ≤ 32 := by
    simp only [moveWords, line_length, wMove, List.map_cons, List.map_nil, List.sum_cons, List.sum_nil, List.length_cons, List.length_nil]; omega
  have m2 : (stepLines 0 f.steps).length ≤ f.steps.length * 186 := by
    rw [stepLines_show]
    have := flatten_len (m := 186) (ls := stepShow f.steps) (fun l hl' => by
      obtain ⟨i, hi, rfl⟩ := List.getElem_of_mem hl'
      rw [stepShow_length] at hi
      rw [stepShow_get f.steps i hi]
      exact stepLine_short ⟨by omega, by omega⟩ (c := f.steps.length) (by omega) (h.steps _ (List.getElem_mem hi)))
    rwa [stepShow_length] at this
  have m3 : ((f.wins.map fun w => line (winWords w)).flatten).length ≤ f.wins.length * 32 := by
    have := flatten_len (m := 32) (ls := f.wins.map fun w => line (winWords w)) (fun l hl' => by
      obtain ⟨v, hv', rfl⟩ := List.mem_map.1 hl'
      exact winLine_short (c := f.steps.length) (by omega) (vWinsFrom_all h.wins v hv'))
    rwa [List.length_map] at this
  have hw := h.wlen
  unfold text
  rw [List.length_append, List.length_append]
  have e1 : f.steps.length * 186 ≤ 40 * 186 := Nat.mul_le_mul_right _ hl
  have e2 : f.wins.length * 32 ≤ 20 * 32 := Nat.mul_le_mul_right _ hw
  omega
end Go.Proofs.YtcaclijkkbhfhaaGreatDoor.Fl
