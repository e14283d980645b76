/-
  What the loops of FlowLines have made, line by line.
-/
import Derived.Test.YtcaclijkkbhfhaaGreatDoorMake
import Derived.Test.YtcaclijkkbhfhaaGreatDoorRefL
import Derived.Test.YtcaclijkkbhfhaaGreatDoorFlM
import Derived.Test.YtcaclijkkbhfhaaGreatDoorFlP
import Derived.Test.YtcaclijkkbhfhaaGreatDoorFlH
import Derived.Deep.LoopGhost
import Derived.Deep.DeepCutAuto
namespace Go.Proofs.YtcaclijkkbhfhaaGreatDoor
open Go.RowKit Go.Shelf

theorem row_of {w : World} {la : Option Addr} {lc : Nat} {D : List (List UInt8)} (h : StrA w la lc (D.map bs)) (h0 : 0 < D.length) :
    ∃ b off, la = some ⟨b, off, none⟩ ∧ b < w.heap.size ∧ ∀ i s, D[i]? = some s → w.cell? ⟨b, off + i, none⟩ = some (.string (bs s)) := by
  obtain ⟨b, off, e, hb, _⟩ := h.2.2 0 (by simpa using h0)
  refine ⟨b, off, e, hb, fun i s hi => ?_⟩
  obtain ⟨hlt, rfl⟩ := List.getElem?_eq_some_iff.1 hi
  obtain ⟨b', off', e', _, hc⟩ := h.2.2 i (by simpa using hlt)
  rw [e] at e'; injection e' with e'; injection e' with e1 e2; subst e1; subst e2
  rw [hc, List.getElem_map]
abbrev itM (D : List (List UInt8)) (L : List Int) (k i : Nat) : List Fl.Item := Fl.itemsTo D L (D.length + 1) (min L.length 20) k i
/-- All items: what stands ahead of the last, empty line is one of its own. -/
abbrev itA (D : List (List UInt8)) (L : List Int) (k : Nat) : List Fl.Item := itM D L k D.length ++ [(Fl.marksTo L (D.length + 1) D.length (min L.length 20), none)]
/-- What the loop over the lines has made. -/
def LSt (D : List (List UInt8)) (L : List Int) (k i : Nat) (pl fu : List UInt8) (pos : List Int) (n : Nat) : Prop :=
  (i ≤ D.length ∧ pl = Fl.cat (Fl.plainOf (itM D L k i)) ∧ fu = Fl.cat (Fl.fullOf (itM D L k i)) ∧ pos = (Fl.placesOf 0 (itM D L k i)).map Int.ofNat ∧ n = (Fl.fullOf (itM D L k i)).length) ∨
  (i = D.length + 1 ∧ pl = Fl.cat (Fl.plainOf (itA D L k)) ∧ fu = Fl.cat (Fl.fullOf (itA D L k)) ∧ pos = (Fl.placesOf 0 (itA D L k)).map Int.ofNat ++ (if k = D.length then [] else [((Fl.fullOf (itA D L k)).length : Int) + 1]))
/-- What holds ahead of line i. -/
def LIn (D : List (List UInt8)) (L : List Int) (k i : Nat) (pl fu : List UInt8) (pos : List Int) (n : Nat) : Prop :=
  pl = Fl.cat (Fl.plainOf (itM D L k i)) ∧ fu = Fl.cat (Fl.fullOf (itM D L k i)) ∧ pos = (Fl.placesOf 0 (itM D L k i)).map Int.ofNat ∧ n = (Fl.fullOf (itM D L k i)).length
abbrev mk (D : List (List UInt8)) (L : List Int) (i : Nat) : List (List UInt8) := Fl.marksTo L (D.length + 1) i (min L.length 20)
theorem LIn.skip {D : List (List UInt8)} {L : List Int} {k i : Nat} {pl fu : List UInt8} {pos : List Int} {n : Nat} (h : LIn D L k i pl fu pos n) (hi : i ≤ D.length) (hk : i = k) : LSt D L k (i + 1) pl (fu ++ Fl.cat (mk D L i)) pos (n + (mk D L i).length) := by
  obtain ⟨rfl, rfl, rfl, rfl⟩ := h
  rcases Nat.lt_or_eq_of_le hi with hl | rfl
  · refine .inl ⟨hl, ?_, ?_, ?_, ?_⟩ <;> (unfold itM; rw [Fl.itemsTo_succ hl, if_pos hk])
    · rw [Fl.plainOf_snoc]; simp
    · rw [Fl.fullOf_snoc, Fl.cat_append]; simp
    · rw [Fl.placesOf_snoc]; simp
    · rw [Fl.fullOf_snoc]; simp
  · refine .inr ⟨rfl, ?_, ?_, ?_⟩
    · unfold itA; rw [Fl.plainOf_snoc]; simp
    · unfold itA; rw [Fl.fullOf_snoc, Fl.cat_append]; simp
    · unfold itA; rw [Fl.placesOf_snoc, if_pos hk.symm]; simp
theorem LIn.line {D : List (List UInt8)} {L : List Int} {k i : Nat} {pl fu : List UInt8} {pos : List Int} {n : Nat} (h : LIn D L k i pl fu pos n) (hi : i < D.length) (hk : ¬ i = k) :
    LSt D L k (i + 1) (pl ++ D[i] ++ [10]) (fu ++ Fl.cat (mk D L i) ++ D[i] ++ [10]) (pos ++ [((n + (mk D L i).length : Nat) : Int) + 1]) (n + (mk D L i).length + 1) := by
  obtain ⟨rfl, rfl, rfl, rfl⟩ := h
  refine .inl ⟨hi, ?_, ?_, ?_, ?_⟩ <;> (unfold itM; rw [Fl.itemsTo_succ hi, if_neg hk])
  · rw [Fl.plainOf_snoc, Fl.cat_append]; simp [Fl.cat]
  · rw [Fl.fullOf_snoc, Fl.cat_append, Fl.cat_append]; simp [Fl.cat]
  · rw [Fl.placesOf_snoc]; simp
  · rw [Fl.fullOf_snoc, List.length_append, List.length_append]; rfl
theorem LIn.last {D : List (List UInt8)} {L : List Int} {k i : Nat} {pl fu : List UInt8} {pos : List Int} {n : Nat} (h : LIn D L k i pl fu pos n) (hi : i = D.length) (hk : ¬ i = k) :
    LSt D L k (i + 1) pl (fu ++ Fl.cat (mk D L i)) (pos ++ [((n + (mk D L i).length : Nat) : Int) + 1]) (n + (mk D L i).length + 1) := by
  obtain ⟨rfl, rfl, rfl, rfl⟩ := h
  subst hi
  refine .inr ⟨rfl, ?_, ?_, ?_⟩
  · unfold itA; rw [Fl.plainOf_snoc]; simp
  · unfold itA; rw [Fl.fullOf_snoc, Fl.cat_append]; simp
  · unfold itA; rw [Fl.placesOf_snoc, if_neg (fun e => hk e.symm), Fl.fullOf_snoc]; simp
theorem it_len (D : List (List UInt8)) (L : List Int) (k : Nat) : ∀ i, i ≤ D.length → (Fl.cat (Fl.fullOf (itM D L k i))).length ≤ (Fl.cat (D.take i)).length + i * 140 ∧ (Fl.cat (Fl.plainOf (itM D L k i))).length ≤ (Fl.cat (D.take i)).length ∧ (Fl.fullOf (itM D L k i)).length ≤ i * 21
  | 0, _ => by simp [Fl.itemsTo, Fl.fullOf, Fl.plainOf, Fl.cat]
  | i + 1, h => by
    obtain ⟨h1, h2, h3⟩ := it_len D L k i (by omega)
    have hm := Fl.marksTo_len L (D.length + 1) i (min L.length 20)
    have hc : (Fl.cat (D.take (i + 1))).length = (Fl.cat (D.take i)).length + D[i].length + 1 := by rw [List.take_succ_eq_append_getElem h, Fl.cat_append]; simp [Fl.cat]; omega
    unfold itM at *
    rw [Fl.itemsTo_succ h, Fl.fullOf_snoc, Fl.plainOf_snoc, Fl.cat_append, Fl.cat_append, Fl.cat_append, hc]
    simp only [List.length_append]
    have hmin : min L.length 20 ≤ 20 := Nat.min_le_right _ _
    by_cases hk : i = k
    · simp only [hk, if_true, Option.toList_none, List.length_nil, Fl.cat, List.map_nil, List.flatten_nil] at *
      omega
    · simp only [hk, if_false, Option.toList_some, Fl.cat, List.map_cons, List.map_nil, List.flatten_cons, List.flatten_nil, List.append_nil, List.length_append, List.length_cons, List.length_nil] at *
      omega
theorem mark_cell (w : World) (c : Int) (h0 : 0 ≤ c) (h1 : c < 3) : ∃ j : Nat, c = (j : Int) ∧ j < 3 ∧ (w.alloc (.cells #[.string ⟨#[10]⟩, .string ⟨#[35, 32, 115, 116, 101, 112, 10]⟩, .string ⟨#[35, 10]⟩] 9)).cell? ⟨w.heap.size, j, none⟩ = some (.string (bs (Fl.markOf c ++ [10]))) := by
  obtain ⟨j, rfl⟩ := Int.eq_ofNat_of_zero_le h0
  refine ⟨j, rfl, by omega, block_cell (heap_alloc_new w _) j _ ?_⟩
  rcases (by omega : j = 0 ∨ j = 1 ∨ j = 2) with rfl | rfl | rfl <;> rfl
end Go.Proofs.YtcaclijkkbhfhaaGreatDoor
