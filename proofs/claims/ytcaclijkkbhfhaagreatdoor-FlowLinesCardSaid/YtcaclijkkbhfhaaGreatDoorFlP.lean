/-
  Flows on paper: where a step's and a window's line stands; a flow with less windows.
-/
import Derived.Test.YtcaclijkkbhfhaaGreatDoorFlC
namespace Go.Proofs.YtcaclijkkbhfhaaGreatDoor.Fl
open Go.Lib

theorem stepBodies_length : ∀ (n : Int) (l : List Step), (stepBodies n l).length = l.length
  | _, [] => rfl
  | n, s :: l => by simp [stepBodies, stepBodies_length (n + 1) l]
theorem bodies_length (f : Flow) : (bodies f).length = 1 + f.steps.length + f.wins.length := by
  unfold bodies; simp [stepBodies_length]; omega
theorem stepBodies_get : ∀ (n : Int) (l : List Step) (i : Nat) (h : i < l.length), (stepBodies n l)[i]? = some (join (stepWords (n + i) l[i]) [32])
  | n, s :: l, 0, _ => by simp [stepBodies]
  | n, s :: l, i + 1, h => by
    have := stepBodies_get (n + 1) l i (by simpa using h)
    simp only [stepBodies, List.getElem?_cons_succ, List.getElem_cons_succ]
    rw [this, show n + 1 + (i : Int) = n + ((i + 1 : Nat) : Int) by omega]
theorem bodies_step (f : Flow) (i : Nat) (h : i < f.steps.length) : (bodies f)[1 + i]? = some (join (stepWords i f.steps[i]) [32]) := by
  unfold bodies
  rw [show 1 + i = i + 1 by omega, List.getElem?_cons_succ, List.getElem?_append_left (by rw [stepBodies_length]; exact h), stepBodies_get 0 f.steps i h]
  simp
theorem bodies_win (f : Flow) (i : Nat) (h : i < f.wins.length) : (bodies f)[1 + f.steps.length + i]? = some (join (winWords f.wins[i]) [32]) := by
  unfold bodies
  rw [show 1 + f.steps.length + i = (f.steps.length + i) + 1 by omega, List.getElem?_cons_succ, List.getElem?_append_right (by rw [stepBodies_length]; omega), stepBodies_length, show f.steps.length + i - f.steps.length = i by omega]
  simp [h]
theorem vWinsFrom_take {c : Int} : ∀ {o : Option Win} {l : List Win} (m : Nat), vWinsFrom c o l = true → vWinsFrom c o (l.take m) = true
  | o, l, 0, _ => by cases o <;> simp [vWinsFrom]
  | o, [], m + 1, h => by simpa using h
  | none, w :: l, m + 1, h => by
    simp only [vWinsFrom, Bool.and_eq_true, List.take_succ_cons] at h ⊢
    exact ⟨h.1, vWinsFrom_take m h.2⟩
  | some v, w :: l, m + 1, h => by
    simp only [vWinsFrom, Bool.and_eq_true, List.take_succ_cons] at h ⊢
    exact ⟨h.1, vWinsFrom_take m h.2⟩
theorem valid_take {f : Flow} (hv : valid f = true) (m : Nat) : valid ⟨f.least, f.most, f.steps, f.wins.take m⟩ = true := by
  have h := valid_iff.1 hv
  exact valid_iff.2 ⟨h.moves, h.pos, h.len, h.steps, by have := h.wlen; simp; omega, vWinsFrom_take m h.wins⟩
end Go.Proofs.YtcaclijkkbhfhaaGreatDoor.Fl
