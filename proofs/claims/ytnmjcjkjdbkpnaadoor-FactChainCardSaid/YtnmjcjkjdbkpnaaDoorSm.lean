/-
  within, place, fields, keyFields.
-/
import Derived.Test.YtnmjcjkjdbkpnaaDoorBs
namespace Go.Proofs.YtnmjcjkjdbkpnaaDoor
open Go.RowKit Go.Shelf Fc
attribute [local go_sem] Oper.semAt_some
theorem within_any (n a b : Int) (w : World) : Calls Tryd.prog 31 #[.int .i64 n, .int .i64 a, .int .i64 b] w fun e w' => e = .returned (.bool (within n a b)) ∧ w' = w := by
  by_cases h1 : n ≥ a
  · go_enter Tryd.func31, Tryd.ntmps31
    go_wp2_with fail
    go_ret
    exact ⟨ret_bool (by unfold within; simp [h1]), rfl⟩
  · go_enter Tryd.func31, Tryd.ntmps31
    go_wp2_with fail
    go_ret
    exact ⟨ret_bool (by unfold within; simp; omega), rfl⟩
set_option maxRecDepth 100000 in
set_option maxHeartbeats 2000000 in
theorem place_any (b x : Nat) (hx : x < 14) (w : World) : Calls Tryd.prog 52 #[.pointer (some ⟨b, 0, none⟩), .int .i64 (x : Int)] w fun e w' => e = .returned (.pointer (some ⟨b, cellOf x, none⟩)) ∧ w' = w := by
  match x, hx with
  | 0, _ | 1, _ | 2, _ | 3, _ | 4, _ | 5, _ | 6, _ | 7, _ | 8, _ | 9, _ | 10, _ | 11, _ | 12, _ | 13, _ =>
    go_enter Tryd.func52, Tryd.ntmps52
    go_wp2_with fail
    go_ret
    exact ⟨rfl, rfl⟩
/-- A new row of fields. -/
def FldPost (l : List Nat) (w : World) (e : Ending) (w' : World) : Prop := ∃ a c, e = .returned (.slice a l.length c) ∧ FldA w' a c l ∧ (∀ x, a = some x → x.block = w.heap.size) ∧ Below w.heap.size w w'
theorem fld_new {w : World} {l : List Nat} {cs : Array Value} {t : TypeId} (hc : cs.toList = l.map fun x : Nat => Value.int .i64 (x : Int)) (hl : l.length ≤ 20) : FldA (w.alloc (.cells cs t)) (some ⟨w.heap.size, 0, none⟩) l.length l := by
  refine ⟨Nat.le_refl _, by unfold maxLen; omega, fun i hi => ⟨w.heap.size, 0, rfl, by simp, fun j v hv => ?_⟩⟩
  have hj : j = 0 := by
    have := (List.getElem?_eq_some_iff.1 hv).1
    simp [fldCells] at this; omega
  subst hj
  refine box_cell (heap_alloc_new w _) _ _ ?_
  rw [show cs[0 + i * 1 + 0]? = cs.toList[i]? by simp, hc]
  simp [fldCells] at hv
  simp [hi, hv]
theorem FldPost.mk {w : World} {l : List Nat} {cs : Array Value} {t : TypeId} (hc : cs.toList = l.map fun x : Nat => Value.int .i64 (x : Int)) (hl : l.length ≤ 20) : FldPost l w (.returned (.slice (some ⟨w.heap.size, 0, none⟩) l.length l.length)) (w.alloc (.cells cs t)) :=
  ⟨_, _, rfl, fld_new hc hl, fun x hx => by injection hx with hx; rw [← hx], below_new _ _⟩
set_option maxRecDepth 100000 in
set_option maxHeartbeats 2000000 in
theorem keyFields_any (k : Int) (w : World) : Calls Tryd.prog 39 #[.int .i64 k] w (FldPost (keyL k) w) := by
  obtain rfl | rfl | rfl | rfl | ⟨h4, h5, h8, h10⟩ : k = 4 ∨ k = 5 ∨ k = 8 ∨ k = 10 ∨ (k ≠ 4 ∧ k ≠ 5 ∧ k ≠ 8 ∧ k ≠ 10) := by omega
  · go_enter Tryd.func39, Tryd.ntmps39
    go_wp2_with fail
    go_ret
    exact FldPost.mk (l := [1, 10]) rfl (by decide)
  · go_enter Tryd.func39, Tryd.ntmps39
    go_wp2_with fail
    go_ret
    exact FldPost.mk (l := [4]) rfl (by decide)
  · go_enter Tryd.func39, Tryd.ntmps39
    go_wp2_with fail
    go_ret
    exact FldPost.mk (l := [2, 13]) rfl (by decide)
  · go_enter Tryd.func39, Tryd.ntmps39
    go_wp2_with fail
    go_ret
    exact FldPost.mk (l := [8, 10]) rfl (by decide)
  · have H := Lib.hid (show keyL k = [0] by unfold keyL; simp [h4, h5, h8, h10])
    go_enter Tryd.func39, Tryd.ntmps39
    go_wp2_with fail
    go_ret
    rw [H.out]
    exact FldPost.mk (l := [0]) rfl (by decide)
set_option maxRecDepth 100000 in
set_option maxHeartbeats 4000000 in
theorem fields_any (k : Int) (w : World) : Calls Tryd.prog 45 #[.int .i64 k] w (FldPost (fieldsL k) w) := by
  obtain rfl | rfl | rfl | rfl | rfl | rfl | rfl | rfl | rfl | rfl | rfl | ⟨h1, h2, h3, h4, h5, h6, h7, h8, h9, h10, h11⟩ : k = 1 ∨ k = 2 ∨ k = 3 ∨ k = 4 ∨ k = 5 ∨ k = 6 ∨ k = 7 ∨ k = 8 ∨ k = 9 ∨ k = 10 ∨ k = 11 ∨ (k ≠ 1 ∧ k ≠ 2 ∧ k ≠ 3 ∧ k ≠ 4 ∧ k ≠ 5 ∧ k ≠ 6 ∧ k ≠ 7 ∧ k ≠ 8 ∧ k ≠ 9 ∧ k ≠ 10 ∧ k ≠ 11) := by omega
  · go_enter Tryd.func45, Tryd.ntmps45
    go_wp2_with fail
    go_ret
    exact FldPost.mk (l := [0, 1, 5, 6, 7, 8, 9, 10, 11, 12]) rfl (by decide)
  · go_enter Tryd.func45, Tryd.ntmps45
    go_wp2_with fail
    go_ret
    exact FldPost.mk (l := [0, 10, 12]) rfl (by decide)
  · go_enter Tryd.func45, Tryd.ntmps45
    go_wp2_with fail
    go_ret
    exact FldPost.mk (l := [0, 1, 2, 10]) rfl (by decide)
  · go_enter Tryd.func45, Tryd.ntmps45
    go_wp2_with fail
    go_ret
    exact FldPost.mk (l := [1, 3, 4, 10]) rfl (by decide)
  · go_enter Tryd.func45, Tryd.ntmps45
    go_wp2_with fail
    go_ret
    exact FldPost.mk (l := [4]) rfl (by decide)
  · go_enter Tryd.func45, Tryd.ntmps45
    go_wp2_with fail
    go_ret
    exact FldPost.mk (l := [0, 5, 6, 8, 9, 10, 11]) rfl (by decide)
  · go_enter Tryd.func45, Tryd.ntmps45
    go_wp2_with fail
    go_ret
    exact FldPost.mk (l := [0, 1, 3, 5, 6, 7, 8, 9, 10, 11, 13]) rfl (by decide)
  · go_enter Tryd.func45, Tryd.ntmps45
    go_wp2_with fail
    go_ret
    exact FldPost.mk (l := [2, 13, 10]) rfl (by decide)
  · go_enter Tryd.func45, Tryd.ntmps45
    go_wp2_with fail
    go_ret
    exact FldPost.mk (l := [0, 5, 6, 10]) rfl (by decide)
  · go_enter Tryd.func45, Tryd.ntmps45
    go_wp2_with fail
    go_ret
    exact FldPost.mk (l := [8, 10, 12]) rfl (by decide)
  · go_enter Tryd.func45, Tryd.ntmps45
    go_wp2_with fail
    go_ret
    exact FldPost.mk (l := [0, 5, 6, 10, 11]) rfl (by decide)
  · have H := Lib.hid (show fieldsL k = [] by unfold fieldsL; simp [h1, h2, h3, h4, h5, h6, h7, h8, h9, h10, h11])
    go_enter Tryd.func45, Tryd.ntmps45
    go_wp2_with fail
    go_ret
    rw [H.out]
    exact ⟨none, 0, rfl, RowA.nil _ _ _, fun x hx => by (cases hx), Below.refl _ _⟩
end Go.Proofs.YtnmjcjkjdbkpnaaDoor
