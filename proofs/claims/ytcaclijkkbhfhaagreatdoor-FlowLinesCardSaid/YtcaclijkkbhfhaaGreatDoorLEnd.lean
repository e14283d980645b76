/-
  What FlowLines reads of the two texts that its loops have made.
-/
import Derived.Test.YtcaclijkkbhfhaaGreatDoorLSt
namespace Go.Proofs.YtcaclijkkbhfhaaGreatDoor
open Go.RowKit Go.Shelf

theorem placesA (D : List (List UInt8)) (L : List Int) (k : Nat) : Fl.placesOf 0 (itA D L k) = Fl.placesOf 0 (itM D L k D.length) := by
  unfold itA; rw [Fl.placesOf_snoc]; simp
theorem itA_len (D : List (List UInt8)) (L : List Int) (k : Nat) : (Fl.cat (Fl.fullOf (itA D L k))).length ≤ (Fl.cat D).length + (D.length + 1) * 140 ∧ (Fl.cat (Fl.plainOf (itA D L k))).length ≤ (Fl.cat D).length := by
  obtain ⟨h1, h2, _⟩ := it_len D L k D.length (Nat.le_refl _)
  have hm := Fl.marksTo_len L (D.length + 1) D.length (min L.length 20)
  have hmin : min L.length 20 ≤ 20 := Nat.min_le_right _ _
  rw [List.take_length] at h1 h2
  unfold itA
  rw [Fl.fullOf_snoc, Fl.plainOf_snoc, Fl.cat_append, Fl.cat_append, Fl.cat_append]
  simp only [List.length_append, Option.toList_none, Fl.cat, List.map_nil, List.flatten_nil, List.length_nil] at *
  omega
theorem itA_ok {D : List (List UInt8)} {L : List Int} {k : Nat} (hno : ∀ l ∈ D, (10 : UInt8) ∉ l) : (∀ x ∈ itA D L k, ∀ l ∈ x.1, Fl.ignored l = true) ∧ (∀ l ∈ Fl.plainOf (itA D L k), (10 : UInt8) ∉ l) ∧ ∀ l ∈ Fl.fullOf (itA D L k), (10 : UInt8) ∉ l := by
  have key : ∀ x ∈ itA D L k, (∀ l ∈ x.1, Fl.ignored l = true ∧ (10 : UInt8) ∉ l) ∧ ∀ l, x.2 = some l → (10 : UInt8) ∉ l := by
    intro x hx
    unfold itA at hx
    rcases List.mem_append.1 hx with hx | hx
    · obtain ⟨j, h1, h2⟩ := Fl.itemsTo_ok x hx
      refine ⟨fun l hl => ?_, fun l hl => hno l (h2 l hl)⟩
      rw [h1] at hl
      exact ⟨(Fl.marksTo_ok l hl).1, (Fl.marksTo_ok l hl).2.1⟩
    · have hx := List.mem_singleton.1 hx
      subst hx
      exact ⟨fun l hl => ⟨(Fl.marksTo_ok l hl).1, (Fl.marksTo_ok l hl).2.1⟩, fun l hl => by cases hl⟩
  refine ⟨fun x hx l hl => ((key x hx).1 l hl).1, fun l hl => ?_, fun l hl => ?_⟩
  · obtain ⟨x, hx, h2⟩ := List.mem_filterMap.1 hl
    exact (key x hx).2 l h2
  · obtain ⟨x, hx, h2⟩ := List.mem_flatMap.1 hl
    rcases List.mem_append.1 h2 with h2 | h2
    · exact ((key x hx).1 l h2).2
    · exact (key x hx).2 l (Option.mem_toList.1 h2)
/-- What stands behind the loop over the lines. -/
def LFin (pl fu : List UInt8) (pos : List Int) : Prop :=
  (∃ f, Fl.parse pl = .ok f ∧ Fl.parse fu = .ok f) ∨
  (∃ j e : Nat, ∃ hj : j < pos.length, Fl.parse pl = .error (j + 1) ∧ pos[j] = (e : Int) ∧ Fl.parse fu = .error e ∧ j + 1 ≤ (Fl.lines pl).length) ∨
  (Fl.parse pl = .error (pos.length + 1) ∧ (Fl.lines pl).length = pos.length + 1 ∧ Fl.parse fu = .error (Fl.lines fu).length)
theorem LSt.fin {D : List (List UInt8)} {L : List Int} {k i : Nat} {pl fu : List UInt8} {pos : List Int} {n : Nat} (h : LSt D L k i pl fu pos n) (hi : ¬ i < D.length + 1) (hno : ∀ l ∈ D, (10 : UInt8) ∉ l) :
    LFin pl fu pos ∧ pl.length ≤ (Fl.cat D).length ∧ fu.length ≤ (Fl.cat D).length + (D.length + 1) * 140 ∧ pos.length ≤ D.length + 1 := by
  rcases h with ⟨h, _⟩ | ⟨_, rfl, rfl, rfl⟩
  · omega
  · obtain ⟨o1, o2, o3⟩ := itA_ok (L := L) (k := k) hno
    obtain ⟨l1, l2, hp⟩ := Fl.ins_parse (itA D L k) o1 o2 o3
    have hn := itA_len D L k
    have hpl := Fl.placesOf_length 0 (itA D L k)
    have hle : (Fl.plainOf (itA D L k)).length ≤ D.length := by
      unfold itA; rw [Fl.plainOf_snoc]
      simp only [Option.toList_none, List.append_nil]
      refine Nat.le_trans (List.length_filterMap_le _ _) ?_
      simp [Fl.itemsTo]
    have hlen : ((Fl.placesOf 0 (itA D L k)).map Int.ofNat ++ (if k = D.length then [] else [((Fl.fullOf (itA D L k)).length : Int) + 1])).length = (Fl.plainOf (itA D L k)).length + (if k = D.length then 0 else 1) := by
      rw [List.length_append, List.length_map, hpl]; split <;> rfl
    refine ⟨?_, hn.2, hn.1, by rw [hlen]; split <;> omega⟩
    rcases hp with h | ⟨j, e, h1, h2, h3⟩ | ⟨h1, h2⟩
    · exact .inl h
    · obtain ⟨hj, he⟩ := List.getElem?_eq_some_iff.1 h2
      refine .inr (.inl ⟨j, e, by rw [hlen]; omega, h1, ?_, h3, ?_⟩)
      · rw [List.getElem_append_left (by simpa using hj), List.getElem_map, he]; rfl
      · rw [l1]; simp; omega
    · by_cases hk : k = D.length
      · simp only [hk, if_true, List.append_nil, List.length_map] at *
        refine .inr (.inr ⟨by rw [h1, List.length_map, hpl], by rw [l1, List.length_map, hpl]; simp, by rw [h2, l2]; simp⟩)
      · simp only [hk, if_false] at *
        refine .inr (.inl ⟨(Fl.plainOf (itA D L k)).length, (Fl.fullOf (itA D L k)).length + 1, by rw [hlen]; omega, h1, ?_, h2, by rw [l1]; simp⟩)
        rw [List.getElem_append_right (by simp [hpl])]; simp [hpl]
end Go.Proofs.YtcaclijkkbhfhaaGreatDoor
