/-
  The contract of the package's Root, for every list. Condition: the table of 64 words reads as the program's text lays it.
-/
import Derived.Test.YtbaggjhjkignkaaDoorSums
import Derived.Test.YtbaggjhjkignkaaDoorShelf
namespace Go.Proofs.YtbaggjhjkignkaaDoor
open Go.RowKit Tree

theorem StrA.take {w : World} {a : Option Addr} {c : Nat} {L : List ByteArray} (h : StrA w a c L) (k : Nat) : StrA w a c (L.take k) :=
  ⟨by rw [List.length_take]; have := h.1; omega, h.2.1, fun i hi => by
    rw [List.length_take] at hi
    obtain ⟨b, off, e, e1, e2⟩ := h.2.2 i (by omega)
    exact ⟨b, off, e, e1, by rw [e2, List.getElem_take]⟩⟩
theorem StrA.drop {w : World} {b off : Nat} {c : Nat} {L : List ByteArray} (h : StrA w (some ⟨b, off, none⟩) c L) (k : Nat) : StrA w (some ⟨b, off + k, none⟩) (c - k) (L.drop k) :=
  ⟨by rw [List.length_drop]; have := h.1; omega, Nat.le_trans (Nat.sub_le _ _) h.2.1, fun i hi => by
    rw [List.length_drop] at hi
    obtain ⟨b', off', e, e1, e2⟩ := h.2.2 (k + i) (by omega)
    cases e
    exact ⟨_, _, rfl, e1, by rw [Nat.add_assoc, e2, List.getElem_drop]⟩⟩
theorem StrA.place {w : World} {a : Option Addr} {c : Nat} {L : List ByteArray} (h : StrA w a c L) (h0 : 0 < L.length) : ∃ b off : Nat, a = some ⟨b, off, none⟩ ∧ b < w.heap.size := by
  obtain ⟨b, off, e, e1, _⟩ := h.2.2 0 h0
  exact ⟨b, off, e, e1⟩

/-- A string as an answer. -/
def StrEnd (s : ByteArray) (w : World) (e : Ending) (w' : World) : Prop := e = .returned (.string s) ∧ Below w.heap.size w w'

/-- What a walk over a list keeps: the table, the list, all that lay before. -/
structure ListAt (w : World) (a : Option Addr) (c : Nat) (L : List ByteArray) (w' : World) : Prop where
  tab : Tab w'
  list : StrA w' a c L
  below : Below w.heap.size w w'
theorem ListAt.start {w : World} {a : Option Addr} {c : Nat} {L : List ByteArray} (ht : Tab w) (hA : StrA w a c L) : ListAt w a c L w := ⟨ht, hA, Below.refl _ _⟩
theorem ListAt.step {w w1 w2 : World} {a : Option Addr} {c : Nat} {L : List ByteArray} (h : ListAt w a c L w1) (hb : Below w1.heap.size w1 w2) : ListAt w a c L w2 := ⟨h.tab.below hb, h.list.below hb, below_step h.below hb⟩

set_option maxRecDepth 100000 in
set_option maxHeartbeats 2000000 in
theorem root_any : ∀ (m : Nat) (L : List ByteArray) (a : Option Addr) (c : Nat) (w : World), L.length ≤ m → Tab w → StrA w a c L → (∀ x ∈ L, x.size ≤ 1000) →
    Calls Tryd.prog 21 #[.slice a L.length c] w (StrEnd (rootS Sha.shaS L) w)
  | m, L, a, c, w, hm, ht, hA, hx => by
    have hc := hA.1
    have hcm := hA.2.1
    unfold maxLen at hcm
    by_cases h2 : 2 ≤ L.length
    · cases m with
      | zero => omega
      | succ m =>
        obtain ⟨b, off, rfl, lb⟩ := hA.place (by omega)
        have hk0 := leftN_pos L.length
        have hk1 := leftN_lt h2
        have hT1 : (L.take (leftN L.length)).length = leftN L.length := by rw [List.length_take]; omega
        have hD1 : (L.drop (leftN L.length)).length = L.length - leftN L.length := List.length_drop
        have R1 := fun W (hT : Tab W) (hS : StrA W (some ⟨b, off, none⟩) c L) => root_any m (L.take (leftN L.length)) (some ⟨b, off, none⟩) c W (by omega) hT (hS.take _) (fun x h => hx x (List.mem_of_mem_take h))
        have R2 := fun W (hT : Tab W) (hS : StrA W (some ⟨b, off, none⟩) c L) => root_any m (L.drop (leftN L.length)) (some ⟨b, off + leftN L.length, none⟩) (c - leftN L.length) W (by omega) hT (hS.drop _) (fun x h => hx x (List.mem_of_mem_drop h))
        rw [hT1] at R1
        rw [hD1] at R2
        have he : ∀ w', Below w.heap.size w w' → StrEnd (rootS Sha.shaS L) w (.returned (.string (nodeS Sha.shaS (rootS Sha.shaS (L.take (leftN L.length))) (rootS Sha.shaS (L.drop (leftN L.length)))))) w' := fun w' h => by
          rw [rootS_two Sha.shaS h2]; exact ⟨rfl, h⟩
        have hz1 := rootS_size Sha.shaS Sha.shaS_size (L.take (leftN L.length))
        have hz2 := rootS_size Sha.shaS Sha.shaS_size (L.drop (leftN L.length))
        generalize rootS Sha.shaS (L.take (leftN L.length)) = r1 at *
        generalize rootS Sha.shaS (L.drop (leftN L.length)) = r2 at *
        have HE := Lib.hid he
        have HR1 := Lib.hid R1
        have HR2 := Lib.hid R2
        have HA := Lib.hid hA
        have HS := Lib.hid (split_any L.length w h2 (by omega))
        have hcz : c ≠ 0 := by omega
        clear he R1 R2 hT1 hD1 hA
        generalize hln : L.length = n at *
        generalize leftN n = k at *
        have d0 : ((n : Int) == 0) = false := by simp; omega
        have d1 : ((n : Int) == 1) = false := by simp; omega
        have HLN := Lib.hid hln
        clear hln
        go_enter Tryd.func21, Tryd.ntmps21
        go_wp2_with fail
        refine HS.out.mono ?_
        rintro e w2 ⟨rfl, rfl⟩
        have hck : (c == k) = false := by simp; omega
        have hkn : (k : Int) ≤ (n : Int) := by omega
        have hkc : (k : Int) ≤ (c : Int) := by omega
        have hnc : (n : Int) ≤ (c : Int) := by omega
        go_wp2_with fail
        have h0 : ListAt w (some ⟨b, off, none⟩) c L w.drew := (ListAt.start ht HA.out).step (Below.refl _ _).drew
        go_region_held3 (fun w' => ListAt w (some ⟨b, off, none⟩) c L w') (first | exact h0 | exact ListAt.step (by assumption) hb4)
          (first | (go_at_call 21; ((with_reducible refine (HR1.out _ (ListAt.tab (by assumption)) (ListAt.list (by assumption))).mono ?_); rintro e w4 ⟨rfl, hb4⟩)) | (go_at_call 21; ((with_reducible refine (HR2.out _ (ListAt.tab (by assumption)) (ListAt.list (by assumption))).mono ?_); rintro e w4 ⟨rfl, hb4⟩)) | (go_at_call 11; ((with_reducible refine (node_any _ _ _ (ListAt.tab (by assumption)) (by omega) (by omega)).mono ?_); rintro e w4 ⟨rfl, hb4⟩)))
        go_wp2_with fail
        go_ret
        exact HE.out _ (ListAt.below (by assumption))
    · match L, h2, hA, hx with
      | [], _, hA, _ =>
        have he : ∀ w', Below w.heap.size w w' → StrEnd (rootS Sha.shaS []) w (.returned (.string (Sha.shaS ⟨#[]⟩))) w' := fun w' h => by
          rw [rootS_nil]; exact ⟨rfl, h⟩
        have HE := Lib.hid he
        clear he hA
        go_enter Tryd.func21, Tryd.ntmps21
        go_wp2_with fail
        refine (sum_any ⟨#[]⟩ _ ht (by decide)).mono ?_
        rintro e w1 ⟨rfl, hb⟩
        have HB := Lib.hid hb
        clear hb
        go_wp2_with fail
        go_ret
        exact HE.out _ HB.out
      | [x], _, hA, hx =>
        have he : ∀ w', Below w.heap.size w w' → StrEnd (rootS Sha.shaS [x]) w (.returned (.string (leafS Sha.shaS x))) w' := fun w' h => by
          rw [rootS_one]; exact ⟨rfl, h⟩
        have HE := Lib.hid he
        obtain ⟨b, off, rfl, l1, l2⟩ := hA.2.2 0 (by simp)
        have hc0 : w.cell? ⟨b, off, none⟩ = some (.string x) := l2
        have hxs := hx x (by simp)
        clear he hA l2
        go_enter Tryd.func21, Tryd.ntmps21
        go_wp2_with fail
        refine (leaf_any x _ ht hxs).mono ?_
        rintro e w1 ⟨rfl, hb⟩
        have HB := Lib.hid hb
        clear hb
        go_wp2_with fail
        go_ret
        exact HE.out _ HB.out
      | _ :: _ :: _, h2, _, _ => exact absurd (by simp) h2
end Go.Proofs.YtbaggjhjkignkaaDoor

