/-
  CycleLeast on paper; Levels' starts as cells; a row of integers of the call's own.
-/
import Derived.Test.YtkabjecdbkbpaaaDualW
namespace Go.Proofs.Ytkabjecdbkbpaaa
open Go.RowKit Go.Shelf Cy

theorem ver_moved {n : Nat} {p sh : Int} {L : List Arc} (hv : valid (n : Int) L = true) (hp : isPer p = true) (hn : n ≤ 7) (hL : L.length ≤ 40) (hs : 0 ≤ sh ∧ sh < 1000) {s m : List Int} (h : starts p L n = some s) (hm : m.length = n) (he : ∀ j, j < n → m.getD j 0 = s.getD j 0 + sh) : verB (n : Int) p L m = true := by
  have hG := valid_good hv hp
  obtain ⟨s1, s2, s3, s4⟩ := starts_is hG h
  have hb := starts_bd hG h hn hL
  refine ver_of hv hp hm (fun a ha => ?_) (fun j => ?_)
  · have h1 := hG a ha
    have h2 := s2 a ha
    simp only at h2 ⊢
    rw [he _ (by omega), he _ (by omega)]
    omega
  · by_cases hj : j < n
    · rw [he j hj]; have := hb j; omega
    · rw [List.getD_eq_getElem?_getD, List.getElem?_eq_none (by omega)]; simp
theorem ver_low {n : Nat} {p : Int} {L : List Arc} (hv : valid (n : Int) L = true) (hp : isPer p = true) {s m : List Int} (h : starts p L n = some s) (hl : ∃ j, j < n ∧ m.getD j 0 < s.getD j 0) : verB (n : Int) p L m = false := by
  cases e : verB (n : Int) p L m with
  | false => rfl
  | true =>
    have hG := valid_good hv hp
    obtain ⟨s1, s2, s3, s4⟩ := starts_is hG h
    have hf := feas_of e
    unfold verB at e
    simp only [Bool.and_eq_true, List.all_eq_true, decide_eq_true_eq] at e
    obtain ⟨⟨⟨-, hml⟩, hall⟩, -⟩ := e
    obtain ⟨j, hj, hlt⟩ := hl
    have h0 : ∀ j, j < n → 0 ≤ m.getD j 0 := fun j hj => by
      rw [List.getD_eq_getElem?_getD, List.getElem?_eq_getElem (by omega : j < m.length), Option.getD_some]
      exact (Cy.within_iff.1 (hall _ (List.getElem_mem _))).1
    have := s4 _ hf h0 j hj
    omega
/-- Levels, where there are starts. -/
theorem lvS_any {n : Nat} {p : Int} {L : List Arc} (hn : n ≤ 7) (hn1 : 1 ≤ n) (hv : valid (n : Int) L = true) (hp : isPer p = true) {s : List Int} (hs : starts p L n = some s) {a : Option Addr} {c : Nat} {w : World} (hA : ArcA w a c L) (hS4 : ∀ x, a = some x → x.block < w.heap.size) :
    Calls Try.prog 14 #[.int .i64 n, .slice a L.length c, .int .i64 p] w fun e w' => ∃ (b off sc : Nat) (ca : Option Addr) (cc : Nat), e = .returned (.tuple #[.slice (some ⟨b, off, none⟩) n sc, .slice ca 0 cc, .bool true]) ∧ b < w'.heap.size ∧ n ≤ sc ∧ sc ≤ maxLen ∧
      (∀ j, j < n → w'.cell? ⟨b, off + j, none⟩ = some (.int .i64 (s.getD j 0))) ∧ Below w.heap.size w w' := by
  refine (lvB_any (n : Int) p (by unfold Fits; omega) L a c w hA hS4).mono ?_
  rintro e w' ⟨sa, sc, ca, cc, he, h1, h2, hb⟩
  obtain ⟨e1, e2, e3⟩ := lv_some hv hp hs
  have hl := (starts_is (valid_good hv hp) hs).1
  rw [e2] at h1
  obtain ⟨b, off, rfl, hlt, hc⟩ := h1.at (by omega)
  refine ⟨b, off, sc, ca, cc, by rw [he, e1, e2, e3, hl]; rfl, hlt, by have := h1.1; omega, h1.2.1, fun j hj => ?_, hb⟩
  have := int_cell (hc j (by omega))
  rw [Nat.mul_one] at this
  rw [this, List.getD_eq_getElem?_getD, List.getElem?_eq_getElem (by omega : j < s.length), Option.getD_some]
/-- A row of integers of the call's own, at the block g. -/
def OwnI (w : World) (B g n cap : Nat) (m : List Int) : Prop := m.length = n ∧ w.ownsRow B 3 1 (.slice (some ⟨g, 0, none⟩) n cap) n (m.flatMap intCells)
theorem OwnI.cell {w : World} {B g n cap : Nat} {m : List Int} (h : OwnI w B g n cap m) {j : Nat} (hj : j < n) : w.cell? ⟨g, j, none⟩ = some (.int .i64 (m.getD j 0)) ∧ w.frozen? ⟨g, j, none⟩ = false := by
  refine ⟨?_, h.2.frozenAt j⟩
  have hl := h.1
  rw [h.2.cellAt j (by omega), flat_ints, List.getElem?_map, List.getElem?_eq_getElem (by omega : j < m.length), List.getD_eq_getElem?_getD, List.getElem?_eq_getElem (by omega : j < m.length)]; rfl
theorem OwnI.set {w : World} {B g n cap : Nat} {m : List Int} (h : OwnI w B g n cap m) (j : Nat) (v : Int) : OwnI (w.setCell ⟨g, j, none⟩ (.int .i64 v)) B g n cap (m.set j v) ∧ w.grownBy (w.setCell ⟨g, j, none⟩ (.int .i64 v)) (some g) := by
  obtain ⟨h1, h2⟩ := h.2.stored j (.int .i64 v)
  refine ⟨⟨by simp [h.1], ?_⟩, h2⟩
  rw [flat_ints, List.map_set, ← flat_ints]; exact h1
theorem OwnI.lt {w : World} {B g n cap : Nat} {m : List Int} (h : OwnI w B g n cap m) : B ≤ g ∧ g < w.heap.size := h.2.lt g rfl
theorem OwnI.kept {w w' : World} {B g n cap : Nat} {m : List Int} {row : Option Nat} (h : OwnI w B g n cap m) (hg : w.grownBy w' row) (hne : some g ≠ row) : OwnI w' B g n cap m := ⟨h.1, h.2.kept hg (.inr hne)⟩
theorem OwnI.below {w w' : World} {B g n cap : Nat} {m : List Int} (h : OwnI w B g n cap m) (hb : Below w.heap.size w w') : OwnI w' B g n cap m := ⟨h.1, own_below h.2 hb⟩
theorem OwnI.arg {w : World} {B g n cap : Nat} {m : List Int} (h : OwnI w B g n cap m) : IntsA w (some ⟨g, 0, none⟩) cap m := by
  have h2 := h.2
  rw [← h.1] at h2
  obtain ⟨a, c, e, h3, -⟩ := RowO.arg int_len (show IntsO w B (.slice (some ⟨g, 0, none⟩) m.length cap) m from h2)
  injection e with e1 e2 e3
  rw [e1, e3]; exact h3
theorem OwnI.drew {w : World} {B g n cap : Nat} {m : List Int} (h : OwnI w B g n cap m) : OwnI w.drew B g n cap m := h
end Go.Proofs.Ytkabjecdbkbpaaa
