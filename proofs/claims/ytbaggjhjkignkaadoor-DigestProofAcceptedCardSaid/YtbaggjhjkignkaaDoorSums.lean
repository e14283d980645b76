/-
  The contracts of the package's Sum, Leaf, Node and Chain. Condition: the table of 64 words reads as the program's text lays it.
-/
import Derived.Test.YtbaggjhjkignkaaDoorSumOf
import Derived.Test.YtbaggjhjkignkaaDoorHelp
namespace Go.Proofs.YtbaggjhjkignkaaDoor
open Go.RowKit Tree

theorem bstr_sha (s : ByteArray) (l : List UInt8) (h : l = s.data.toList) : bstr (Sha.digest l) = .string (Sha.shaS s) := by rw [h]; rfl
/-- A literal of strings. -/
theorem StrA.lit (w : World) (L : List ByteArray) (h : L.length < 100) : StrA (w.alloc (.cells (strV L).toArray 9)) (some ⟨w.heap.size, 0, none⟩) L.length L := by
  refine ⟨Nat.le_refl _, by unfold maxLen; omega, fun i hi => ⟨_, _, rfl, by simp, ?_⟩⟩
  rw [cell_of_row _ _ _ (strV L).toArray 9 (0, 0) (heap_alloc_new _ _)]
  unfold strV
  simp [hi]

set_option maxRecDepth 100000 in
set_option maxHeartbeats 400000 in
theorem sum_any (s : ByteArray) (w : World) (ht : Tab w) (hs : s.size ≤ 2000) :
    Calls Tryd.prog 7 #[.string s] w fun e w' => e = .returned (.string (Sha.shaS s)) ∧ Below w.heap.size w w' := by
  have hfl : flat [s] = s.data.toList := by unfold flat; simp
  have hb0 : Below w.heap.size w (w.alloc (.cells (strV [s]).toArray 9)) := (Below.refl _ _).alloc (Nat.le_refl _) _
  have hc := sumOf_any w.heap.size 0 1 [s] _ (StrA.lit w [s] (by simp)) (by simp) (by simp) (by rw [hfl]; simp; omega) (ht.below hb0)
  have HC := Lib.hid hc
  have HB := Lib.hid hb0
  have HF := Lib.hid (bstr_sha s _ hfl)
  clear hc hb0 hfl ht
  go_enter Tryd.func7, Tryd.ntmps7
  go_wp2_with fail
  refine HC.out.mono ?_
  rintro e w1 ⟨rfl, hb⟩
  rw [HF.out]
  have HB1 := Lib.hid (below_step HB.out hb)
  clear hb
  go_wp2_with fail
  go_ret
  exact ⟨rfl, HB1.out⟩

set_option maxRecDepth 100000 in
set_option maxHeartbeats 400000 in
theorem leaf_any (s : ByteArray) (w : World) (ht : Tab w) (hs : s.size ≤ 1000) :
    Calls Tryd.prog 9 #[.string s] w fun e w' => e = .returned (.string (leafS Sha.shaS s)) ∧ Below w.heap.size w w' := by
  have hfl : flat [⟨#[0]⟩, s] = (⟨#[0]⟩ ++ s : ByteArray).data.toList := by unfold flat; simp
  have hb0 : Below w.heap.size w (w.alloc (.cells (strV [⟨#[0]⟩, s]).toArray 9)) := (Below.refl _ _).alloc (Nat.le_refl _) _
  have hsz : (flat [⟨#[0]⟩, s]).length < 900000 := by rw [hfl]; simp only [ByteArray.data_append, Array.toList_append, List.length_append]; simp; omega
  have hc := sumOf_any w.heap.size 0 2 [⟨#[0]⟩, s] _ (StrA.lit w [⟨#[0]⟩, s] (by simp)) (by simp) (by simp) hsz (ht.below hb0)
  have HC := Lib.hid hc
  have HB := Lib.hid hb0
  have HF := Lib.hid (bstr_sha (⟨#[0]⟩ ++ s) _ hfl)
  clear hc hb0 hfl ht hsz
  go_enter Tryd.func9, Tryd.ntmps9
  go_wp2_with fail
  refine HC.out.mono ?_
  rintro e w1 ⟨rfl, hb⟩
  rw [HF.out]
  have HB1 := Lib.hid (below_step HB.out hb)
  clear hb
  go_wp2_with fail
  go_ret
  exact ⟨rfl, HB1.out⟩

set_option maxRecDepth 100000 in
set_option maxHeartbeats 400000 in
theorem node_any (a b : ByteArray) (w : World) (ht : Tab w) (ha : a.size ≤ 500) (hb : b.size ≤ 500) :
    Calls Tryd.prog 11 #[.string a, .string b] w fun e w' => e = .returned (.string (nodeS Sha.shaS a b)) ∧ Below w.heap.size w w' := by
  have hfl : flat [⟨#[1]⟩, a, b] = (⟨#[1]⟩ ++ a ++ b : ByteArray).data.toList := by unfold flat; simp
  have hb0 : Below w.heap.size w (w.alloc (.cells (strV [⟨#[1]⟩, a, b]).toArray 9)) := (Below.refl _ _).alloc (Nat.le_refl _) _
  have hsz : (flat [⟨#[1]⟩, a, b]).length < 900000 := by rw [hfl]; simp only [ByteArray.data_append, Array.toList_append, List.length_append]; simp; omega
  have hc := sumOf_any w.heap.size 0 3 [⟨#[1]⟩, a, b] _ (StrA.lit w [⟨#[1]⟩, a, b] (by simp)) (by simp) (by simp) hsz (ht.below hb0)
  have HC := Lib.hid hc
  have HB := Lib.hid hb0
  have HF := Lib.hid (bstr_sha (⟨#[1]⟩ ++ a ++ b) _ hfl)
  clear hc hb0 hfl ht hsz
  go_enter Tryd.func11, Tryd.ntmps11
  go_wp2_with fail
  refine HC.out.mono ?_
  rintro e w1 ⟨rfl, hb⟩
  rw [HF.out]
  have HB1 := Lib.hid (below_step HB.out hb)
  clear hb
  go_wp2_with fail
  go_ret
  exact ⟨rfl, HB1.out⟩

set_option maxRecDepth 100000 in
set_option maxHeartbeats 400000 in
theorem chain_any (a b : ByteArray) (w : World) (ht : Tab w) (ha : a.size ≤ 500) (hb : b.size ≤ 500) :
    Calls Tryd.prog 13 #[.string a, .string b] w fun e w' => e = .returned (.string (chainS Sha.shaS a b)) ∧ Below w.heap.size w w' := by
  have hfl : flat [⟨#[2]⟩, a, b] = (⟨#[2]⟩ ++ a ++ b : ByteArray).data.toList := by unfold flat; simp
  have hb0 : Below w.heap.size w (w.alloc (.cells (strV [⟨#[2]⟩, a, b]).toArray 9)) := (Below.refl _ _).alloc (Nat.le_refl _) _
  have hsz : (flat [⟨#[2]⟩, a, b]).length < 900000 := by rw [hfl]; simp only [ByteArray.data_append, Array.toList_append, List.length_append]; simp; omega
  have hc := sumOf_any w.heap.size 0 3 [⟨#[2]⟩, a, b] _ (StrA.lit w [⟨#[2]⟩, a, b] (by simp)) (by simp) (by simp) hsz (ht.below hb0)
  have HC := Lib.hid hc
  have HB := Lib.hid hb0
  have HF := Lib.hid (bstr_sha (⟨#[2]⟩ ++ a ++ b) _ hfl)
  clear hc hb0 hfl ht hsz
  go_enter Tryd.func13, Tryd.ntmps13
  go_wp2_with fail
  refine HC.out.mono ?_
  rintro e w1 ⟨rfl, hb⟩
  rw [HF.out]
  have HB1 := Lib.hid (below_step HB.out hb)
  clear hb
  go_wp2_with fail
  go_ret
  exact ⟨rfl, HB1.out⟩
end Go.Proofs.YtbaggjhjkignkaaDoor

