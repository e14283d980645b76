/-
  The value of a proof, along the forks of its way.
-/
import Derived.Test.YtbaggjhjkignkaaDoorRevF
import Derived.Test.YtbaggjhjkignkaaDoorForks
namespace Go.Proofs.YtbaggjhjkignkaaDoor
open Go.RowKit Tree

/-- The value of a proof along a way, the topmost fork and the last element first. -/
def climb (s : ByteArray) : List Fk → List ByteArray → ByteArray
  | f :: fs, x :: r => f.joinS (climb s fs r) x
  | _, _ => leafS Sha.shaS s
theorem climb_nil (s : ByteArray) (r : List ByteArray) : climb s [] r = leafS Sha.shaS s := by cases r <;> rfl
theorem value_ways (s : ByteArray) : ∀ (m first fin i : Nat) (R : List ByteArray), first < fin → fin - first ≤ 2 ^ m → first ≤ i → i < fin →
    valueR Sha.shaS s (fin - first) (i - first) R = if R.length = (forksF m first fin i).length then some (climb s (forksF m first fin i) R) else none
  | 0, first, fin, i, R, h0, h1, h2, h3 => by
    have h4 : fin - first ≤ 1 := by simpa using h1
    rw [forksF_stop _ _ _ _ h4, climb_nil]
    cases R with
    | nil => unfold valueR; rw [if_pos h4]; rfl
    | cons x r => unfold valueR; rw [if_pos h4, if_neg (by simp)]
  | m + 1, first, fin, i, R, h0, h1, h2, h3 => by
    by_cases hd : 2 ≤ fin - first
    · have hp := leftN_pos (fin - first)
      have hq := leftN_lt hd
      have hh := leftN_half hd h1
      by_cases hil : i < first + leftN (fin - first)
      · rw [forksF_low _ _ _ _ hd hil]
        cases R with
        | nil => unfold valueR; rw [if_neg (by omega), if_neg (by simp)]
        | cons x r =>
          have ih := value_ways s m first (first + leftN (fin - first)) i r (by omega) (by omega) h2 hil
          rw [Nat.add_sub_cancel_left] at ih
          rw [valueR, if_neg (by omega), if_pos (by omega), ih, List.length_cons, List.length_cons]
          by_cases hl : r.length = (forksF m first (first + leftN (fin - first)) i).length
          · rw [if_pos hl, if_pos (by omega), Option.map_some]; rfl
          · rw [if_neg hl, if_neg (by omega), Option.map_none]
      · rw [forksF_high _ _ _ _ hd hil]
        cases R with
        | nil => unfold valueR; rw [if_neg (by omega), if_neg (by simp)]
        | cons x r =>
          have ih := value_ways s m (first + leftN (fin - first)) fin i r (by omega) (by omega) (by omega) h3
          rw [show fin - (first + leftN (fin - first)) = fin - first - leftN (fin - first) by omega, show i - (first + leftN (fin - first)) = i - first - leftN (fin - first) by omega] at ih
          rw [valueR, if_neg (by omega), if_neg (by omega), ih, List.length_cons, List.length_cons]
          by_cases hl : r.length = (forksF m (first + leftN (fin - first)) fin i).length
          · rw [if_pos hl, if_pos (by omega), Option.map_some]; rfl
          · rw [if_neg hl, if_neg (by omega), Option.map_none]
    · rw [forksF_stop _ _ _ _ (by omega), climb_nil]
      cases R with
      | nil => unfold valueR; rw [if_pos (by omega)]; rfl
      | cons x r => unfold valueR; rw [if_pos (by omega), if_neg (by simp)]
theorem climb_size (s : ByteArray) : ∀ (fs : List Fk) (R : List ByteArray), (climb s fs R).size = 32
  | [], R => by rw [climb_nil]; exact Sha.shaS_size _
  | f :: fs, [] => Sha.shaS_size _
  | f :: fs, x :: r => by
    show (f.joinS _ _).size = 32
    unfold Fk.joinS
    cases f.left <;> exact Sha.shaS_size _
/-- The value behind k steps from the leaf. -/
def climbK (s : ByteArray) (fs : List Fk) (R : List ByteArray) (k : Nat) : ByteArray := climb s (fs.drop (fs.length - k)) (R.drop (fs.length - k))
theorem climbK_zero (s : ByteArray) (fs : List Fk) (R : List ByteArray) : climbK s fs R 0 = leafS Sha.shaS s := by
  unfold climbK; rw [Nat.sub_zero, List.drop_length]; exact climb_nil _ _
theorem climbK_all (s : ByteArray) (fs : List Fk) (R : List ByteArray) : climbK s fs R fs.length = climb s fs R := by
  unfold climbK; rw [Nat.sub_self]; rfl
theorem climbK_succ (s : ByteArray) (fs : List Fk) (R : List ByteArray) (k : Nat) (hk : k < fs.length) (hl : R.length = fs.length) :
    climbK s fs R (k + 1) = (fs[fs.length - 1 - k]'(by omega)).joinS (climbK s fs R k) (R[fs.length - 1 - k]'(by omega)) := by
  unfold climbK
  have e : fs.length - k = fs.length - 1 - k + 1 := by omega
  rw [show fs.length - (k + 1) = fs.length - 1 - k by omega, List.drop_eq_getElem_cons (by omega : fs.length - 1 - k < fs.length), List.drop_eq_getElem_cons (by omega : fs.length - 1 - k < R.length), e]
  rfl

set_option maxRecDepth 100000 in
set_option maxHeartbeats 400000 in
theorem reverseF_none (a : Option Addr) (cap : Nat) (w : World) :
    Calls Tryd.prog 39 #[.slice a 0 cap] w fun e w' => e = .returned (.tuple #[]) ∧ w = w' := by
  go_enter Tryd.func39, Tryd.ntmps39
  go_wp2_with fail
  refine wp_loop_rounds 1 ?_
  rw [rounds_succ]
  go_wp2_with fail
  go_end0
  exact ⟨rfl, rfl⟩
/-- The cells of some forks. -/
def flatF (fs : List Fk) : List Value := fs.flatMap fun f => (fkC f).toList
theorem flatF_length (fs : List Fk) : (flatF fs).length = fs.length * 4 := by
  induction fs with
  | nil => rfl
  | cons f fs ih => rw [show flatF (f :: fs) = (fkC f).toList ++ flatF fs from rfl, List.length_append, ih, List.length_cons]; show 4 + _ = _; omega
theorem flatF_snoc (fs : List Fk) (f : Fk) : flatF (fs ++ [f]) = flatF fs ++ (fkC f).toList := by unfold flatF; rw [List.flatMap_append]; simp
theorem flatF_get : ∀ (fs : List Fk) (p : Nat), p < fs.length → (flatF fs)[p * 4]? = some (.int .i64 (fs.getD p ⟨0, 0, 0, false⟩).first) ∧ (flatF fs)[p * 4 + 1]? = some (.int .i64 (fs.getD p ⟨0, 0, 0, false⟩).half)
    ∧ (flatF fs)[p * 4 + 2]? = some (.int .i64 (fs.getD p ⟨0, 0, 0, false⟩).fin) ∧ (flatF fs)[p * 4 + 3]? = some (.bool (fs.getD p ⟨0, 0, 0, false⟩).left)
  | [], p, h => by simp at h
  | f :: fs, 0, _ => ⟨rfl, rfl, rfl, rfl⟩
  | f :: fs, p + 1, h => by
    have ih := flatF_get fs p (by simpa using h)
    have e : ∀ q, (flatF (f :: fs))[(p + 1) * 4 + q]? = (flatF fs)[p * 4 + q]? := fun q => by
      show ((fkC f).toList ++ flatF fs)[(p + 1) * 4 + q]? = _
      have hl : (fkC f).toList.length = 4 := rfl
      rw [List.getElem?_append_right (by omega), hl]
      congr 1
      omega
    have e0 := e 0
    simp only [Nat.add_zero] at e0
    rw [e0, e 1, e 2, e 3]
    exact ih
theorem fkFn_of_row {W : World} {n₀ n : Nat} {v : Value} {fs : List Fk} (h : W.ownsRow n₀ 49 4 v n (flatF fs)) (hn : fs.length = n) :
    (v = .slice none 0 0 ∧ n = 0) ∨ ∃ g cap, v = .slice (some ⟨g, 0, none⟩) n cap ∧ FkFn W g n (fun p => fs.getD p ⟨0, 0, 0, false⟩) ∧ n₀ ≤ g ∧ g < W.heap.size ∧ n ≤ cap ∧ cap ≤ maxLen := by
  subst hn
  rcases h.2 with ⟨e, h0⟩ | ⟨g, cap, cur, e, hb, hg, h1, h2, h3, h4⟩
  · exact .inl ⟨e, h0⟩
  · refine .inr ⟨g, cap, e, ⟨cur, _, hg, fun p hp => ?_⟩, hb, (Array.getElem?_eq_some_iff.1 hg).1, h1, h2⟩
    have hc : ∀ j, j < fs.length * 4 → cur[j]? = (flatF fs)[j]? := fun j hj => by
      rw [← h4, List.getElem?_take, if_pos hj, Array.getElem?_toList]
    obtain ⟨q0, q1, q2, q3⟩ := flatF_get fs p hp
    rw [hc _ (by omega), hc _ (by omega), hc _ (by omega), hc _ (by omega)]
    exact ⟨q0, q1, q2, q3⟩
theorem FkFn.kept {W V : World} {g n : Nat} {f : Nat → Fk} (h : FkFn W g n f) (he : V.heap[g]? = W.heap[g]?) : FkFn V g n f := by
  obtain ⟨cur, t, h1, h2⟩ := h
  exact ⟨cur, t, he.trans h1, h2⟩
theorem FkFn.lt {W : World} {g n : Nat} {f : Nat → Fk} (h : FkFn W g n f) : g < W.heap.size := by
  obtain ⟨cur, t, h1, _⟩ := h
  exact (Array.getElem?_eq_some_iff.1 h1).1
theorem FkFn.cells {W : World} {g n : Nat} {f : Nat → Fk} (h : FkFn W g n f) (p : Nat) (hp : p < n) :
    W.cell? ⟨g, p * 4, none⟩ = some (.int .i64 (f p).first) ∧ W.cell? ⟨g, p * 4 + 1, none⟩ = some (.int .i64 (f p).half) ∧ W.cell? ⟨g, p * 4 + 2, none⟩ = some (.int .i64 (f p).fin) ∧ W.cell? ⟨g, p * 4 + 3, none⟩ = some (.bool (f p).left) := by
  obtain ⟨cur, t, h1, h2⟩ := h
  rw [cell_of_row W g _ cur t _ h1, cell_of_row W g _ cur t _ h1, cell_of_row W g _ cur t _ h1, cell_of_row W g _ cur t _ h1]
  exact h2 p hp

/-- slices.Reverse at a row of forks of the call's own. -/
theorem reverseF_own {W : World} {n₀ n : Nat} {A : Option Addr} {cap : Nat} {fs : List Fk} (hn : n < 1000000)
    (h : (Value.slice A n cap = .slice none 0 0 ∧ n = 0) ∨ ∃ g cap', Value.slice A n cap = .slice (some ⟨g, 0, none⟩) n cap' ∧ FkFn W g n (fun p => fs.getD p ⟨0, 0, 0, false⟩) ∧ n₀ ≤ g ∧ g < W.heap.size ∧ n ≤ cap' ∧ cap' ≤ maxLen) :
    Calls Tryd.prog 39 #[.slice A n cap] W fun e w' => e = .returned (.tuple #[]) ∧ (n = 0 ∨ ∃ g, A = some ⟨g, 0, none⟩ ∧ n₀ ≤ g ∧ g < W.heap.size ∧ cap ≤ maxLen ∧ n ≤ cap ∧ FkFn w' g n (fun p => fs.getD (n - 1 - p) ⟨0, 0, 0, false⟩)) ∧ W.grownBy w' (Value.slice A n cap).ownBlock := by
  rcases h with ⟨e, rfl⟩ | ⟨g, cap', e, h1, h2, h3, h4, h5⟩
  · refine (reverseF_none A cap W).mono ?_
    rintro e' w' ⟨rfl, rfl⟩
    exact ⟨rfl, .inl rfl, ⟨rfl, rfl, rfl, Nat.le_refl _, fun _ _ _ => rfl⟩⟩
  · cases e
    refine (reverseF_any n _ g cap W h1 hn).mono ?_
    rintro e' w' ⟨rfl, q1, q2⟩
    exact ⟨rfl, .inr ⟨g, rfl, h2, h3, h5, h4, q1⟩, q2⟩
end Go.Proofs.YtbaggjhjkignkaaDoor

