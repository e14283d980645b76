/-
  Flows on paper: the texts of FlowLines as its loops make them.
-/
import Derived.Test.YtcaclijkkbhfhaaGreatDoorFlL
import Derived.Test.YtcaclijkkbhfhaaGreatDoorPick
namespace Go.Proofs.YtcaclijkkbhfhaaGreatDoor.Fl
open Go.Lib

/-- A line that is ignored. -/
def markOf (c : Int) : List UInt8 := if c = 0 then [] else if c = 1 then [35, 32, 115, 116, 101, 112] else [35]
theorem markOf_ok (c : Int) : ignored (markOf c) = true ∧ (10 : UInt8) ∉ markOf c ∧ (markOf c).length ≤ 6 := by
  unfold markOf; split
  · decide
  · split <;> decide
/-- The lines put ahead of line i, by the first m numbers. -/
def marksTo (L : List Int) (N i m : Nat) : List (List UInt8) := ((L.take m).filter fun p => decide (pickZ p N = i)).map fun p => markOf (pickZ (p.tdiv N) 3)
theorem marksTo_yes {L : List Int} {N i m : Nat} (h : m < L.length) (hp : pickZ L[m] N = i) : marksTo L N i (m + 1) = marksTo L N i m ++ [markOf (pickZ (L[m].tdiv N) 3)] := by
  unfold marksTo; rw [List.take_succ_eq_append_getElem h, List.filter_append]; simp [hp]
theorem marksTo_no {L : List Int} {N i m : Nat} (h : m < L.length) (hp : ¬ pickZ L[m] N = i) : marksTo L N i (m + 1) = marksTo L N i m := by
  unfold marksTo; rw [List.take_succ_eq_append_getElem h, List.filter_append]; simp [hp]
theorem marksTo_ok {L : List Int} {N i m : Nat} : ∀ l ∈ marksTo L N i m, ignored l = true ∧ (10 : UInt8) ∉ l ∧ l.length ≤ 6 := by
  intro l hl
  unfold marksTo at hl
  obtain ⟨p, _, rfl⟩ := List.mem_map.1 hl
  exact markOf_ok _
theorem marksTo_len (L : List Int) (N i m : Nat) : (marksTo L N i m).length ≤ m ∧ (cat (marksTo L N i m)).length ≤ m * 7 := by
  have h1 : (marksTo L N i m).length ≤ m := by
    unfold marksTo
    rw [List.length_map]
    exact Nat.le_trans (List.length_filter_le _ _) (by rw [List.length_take]; exact Nat.min_le_left _ _)
  refine ⟨h1, Nat.le_trans ?_ (Nat.mul_le_mul_right 7 h1)⟩
  have : ∀ ls : List (List UInt8), (∀ l ∈ ls, l.length ≤ 6) → (cat ls).length ≤ ls.length * 7 := by
    intro ls
    induction ls with
    | nil => intro _; simp [cat]
    | cons l ls ih => intro h; have h2 := h l (by simp); have h3 := ih (fun x hx => h x (by simp [hx])); rw [cat_cons]; simp [Nat.succ_mul]; omega
  exact this _ (fun l hl => (marksTo_ok l hl).2.2)
/-- The items of the first i lines; line k is left out. -/
def itemsTo (D : List (List UInt8)) (L : List Int) (N M k i : Nat) : List Item := (D.take i).zipIdx.map fun x => (marksTo L N x.2 M, if x.2 = k then none else some x.1)
theorem itemsTo_succ {D : List (List UInt8)} {L : List Int} {N M k i : Nat} (h : i < D.length) : itemsTo D L N M k (i + 1) = itemsTo D L N M k i ++ [(marksTo L N i M, if i = k then none else some D[i])] := by
  unfold itemsTo
  rw [List.take_succ_eq_append_getElem h, List.zipIdx_append]
  simp [Nat.min_eq_left (Nat.le_of_lt h)]
theorem fullOf_snoc (I : List Item) (x : Item) : fullOf (I ++ [x]) = fullOf I ++ (x.1 ++ x.2.toList) := by simp [fullOf]
theorem plainOf_snoc (I : List Item) (x : Item) : plainOf (I ++ [x]) = plainOf I ++ x.2.toList := by cases h : x.2 <;> simp [plainOf, h]
theorem placesOf_snoc (I : List Item) (ms : List (List UInt8)) (o : Option (List UInt8)) : ∀ n, placesOf n (I ++ [(ms, o)]) = placesOf n I ++ (match o with | none => [] | some _ => [n + (fullOf I).length + ms.length + 1]) := by
  induction I with
  | nil => intro n; cases o <;> simp [placesOf, fullOf]
  | cons x I ih =>
    intro n
    obtain ⟨m', o'⟩ := x
    cases o' <;> simp only [List.cons_append, placesOf, ih] <;> cases o <;> simp [fullOf] <;> omega
theorem itemsTo_ok {D : List (List UInt8)} {L : List Int} {N M k i : Nat} : ∀ x ∈ itemsTo D L N M k i, ∃ j, x.1 = marksTo L N j M ∧ ∀ l, x.2 = some l → l ∈ D := by
  intro x hx
  unfold itemsTo at hx
  obtain ⟨y, hy, rfl⟩ := List.mem_map.1 hx
  refine ⟨y.2, rfl, fun l hl => ?_⟩
  simp only at hl
  split at hl
  · cases hl
  · injection hl with hl
    subst hl
    have := List.mem_zipIdx hy
    obtain ⟨_, _, h3⟩ := this
    rw [h3]
    exact List.mem_of_mem_take (List.getElem_mem _)
end Go.Proofs.YtcaclijkkbhfhaaGreatDoor.Fl
