/-
  The numbers of the visits of a run keep within bounds.
-/
import Derived.Test.YtngpkipblcihaaaPlB
namespace Go.Proofs.Ytngpkipblcihaaa.Pl

theorem steps_bd {p : Plan} {s : Scen} {i : Nat} {V : List Visit} (hp : Poss p s) (hi : i ≤ p.st.length) (h : Steps p s i V) {k : Nat} (hk : k < i) :
    (0 ≤ (nth V k).start ∧ (nth V k).start ≤ 1000000) ∧ 0 ≤ (nth V k).fin ∧ (nth V k).fin ≤ 1010000 := by
  have hkl : k < p.st.length := by omega
  obtain ⟨-, h2, h3⟩ := done_of hp hkl (h.each k hkl hk)
  have ok := hp.v.st p.st[k] (List.getElem_mem hkl)
  have hd := hp.dur k hkl
  have o1 := ok.mn; have o2 := ok.mx; have o3 := ok.top; have o4 := ok.ms; have o5 := ok.ss
  rcases h3 with ⟨-, e, -⟩ | ⟨-, e⟩ <;> omega
/-- The visits of a run, whatever its end. -/
theorem ended_steps {p : Plan} {s : Scen} {R : Res} (h : Ended p s R) : Steps p s R.V.length R.V ∧ R.V.length ≤ p.st.length := by
  rcases h with ⟨-, -, h, -⟩ | ⟨j, -, -, hj, h, -⟩ | ⟨j, k, -, -, -, hj, h, -⟩
  · have := h.len; rw [this]; exact ⟨h, Nat.le_refl _⟩
  · have := h.len; rw [this]; exact ⟨h, by omega⟩
  · have := h.len; rw [this]; exact ⟨h, by omega⟩
theorem ended_bd {p : Plan} {s : Scen} {R : Res} (hp : Poss p s) (h : Ended p s R) {k : Nat} (hk : k < R.V.length) :
    (0 ≤ (nth R.V k).start ∧ (nth R.V k).start ≤ 1000000) ∧ 0 ≤ (nth R.V k).fin ∧ (nth R.V k).fin ≤ 1010000 :=
  steps_bd hp (ended_steps h).2 (ended_steps h).1 hk
end Go.Proofs.Ytngpkipblcihaaa.Pl
