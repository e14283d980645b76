/-
  The statements' examples on paper.
-/
import Derived.Test.YtiolmcnngpaapaaSmal
namespace Go.Proofs.Ytiolmcnngpaapaa
open Go.RowKit Cy

def l2 : List Arc := [⟨0, 1, 30, 0⟩, ⟨1, 0, 20, 1⟩]
def l3 : List Arc := [⟨0, 1, 30, 0⟩, ⟨1, 0, 20, 1⟩, ⟨0, 1, 10, -1⟩]
theorem ex_one : lvB 2 50 l2 = true ∧ lvS 2 50 l2 = [0, 30] ∧ lvC 2 50 l2 = [] := ⟨by kernel_rfl, by kernel_rfl, by kernel_rfl⟩
theorem ex_two : lvB 2 49 l2 = false ∧ lvS 2 49 l2 = [] ∧ lvC 2 49 l2 = [0, 1] := ⟨by kernel_rfl, by kernel_rfl, by kernel_rfl⟩
theorem ex_three : lvB 2 60 l3 = false ∧ lvS 2 60 l3 = [] ∧ lvC 2 60 l3 = [1, 2] := ⟨by kernel_rfl, by kernel_rfl, by kernel_rfl⟩
theorem ex_ver : verB 2 50 l2 [5, 35] = true ∧ verB 2 50 l2 [5, 34] = false := ⟨by kernel_rfl, by kernel_rfl⟩
theorem ex_ref : refB 2 49 l2 [1, 0] = true ∧ refB 2 50 l2 [1, 0] = false := ⟨by kernel_rfl, by kernel_rfl⟩
theorem ex_val : valid 2 l2 = true ∧ valid 1 l2 = false := ⟨by kernel_rfl, by kernel_rfl⟩
theorem ex_feas : feas l2 2 50 = true := by kernel_rfl
theorem ex_no {r : Int} (h : -1000000 ≤ r) (h1 : r < 50) : feas l2 2 r = false := by
  have hG : Grd 2 r l2 := valid_good (n := 2) (l := l2) (p := r) (by kernel_rfl) (Cy.within_iff.2 (by omega))
  refine no_feas (c := l2) (v := 0) hG ?_ ?_
  · exact ⟨by simp [l2], rfl, by simp [l2], rfl, rfl⟩
  · simp only [l2, tot, len]; omega
theorem ex_sm {q : Int} {f : Bool} (h : SmSpec l2 2 0 1000 q f) : q = 50 ∧ f = true := by
  cases f with
  | false => have := (h.no rfl).2 50 (by omega) (by omega); rw [ex_feas] at this; cases this
  | true =>
    obtain ⟨h1, h2, h3, h4⟩ := h.yes rfl
    refine ⟨?_, rfl⟩
    rcases Int.lt_trichotomy q 50 with hq | hq | hq
    · rw [ex_no (by omega) hq] at h3; cases h3
    · exact hq
    · have := h4 50 (by omega) hq; rw [ex_feas] at this; cases this
theorem ex_sm2 {q : Int} {f : Bool} (h : SmSpec l2 2 0 40 q f) : f = false := by
  cases f with
  | false => rfl
  | true =>
    obtain ⟨h1, h2, h3, h4⟩ := h.yes rfl
    rw [ex_no (by omega) (by omega)] at h3; cases h3
end Go.Proofs.Ytiolmcnngpaapaa

