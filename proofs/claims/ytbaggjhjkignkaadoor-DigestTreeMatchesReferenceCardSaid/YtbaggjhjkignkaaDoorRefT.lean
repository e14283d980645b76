/-
  The reference's Leaf, Node and Chain, under the contract of its Sum.
-/
import Derived.Test.YtbaggjhjkignkaaDoorRefS
namespace Go.Proofs.YtbaggjhjkignkaaDoor
open Go.RowKit Tree

/-- The contract of the reference's Sum, as a premise. -/
structure RefSum : Prop where
  sum : ∀ (s : ByteArray) (w : World), s.size ≤ 2000 → Calls Tryd.prog 8 #[.string s] w (StrEnd (Sha.shaS s) w)

set_option maxRecDepth 100000 in
set_option maxHeartbeats 400000 in
theorem refLeaf_any (R : RefSum) (s : ByteArray) (w : World) (hs : s.size ≤ 1000) : Calls Tryd.prog 10 #[.string s] w (StrEnd (leafS Sha.shaS s) w) := by
  have HR := Lib.hid (R.sum (⟨#[0]⟩ ++ s) w (by rw [ByteArray.size_append]; show 1 + s.size ≤ 2000; omega))
  unfold leafS
  go_enter Tryd.func10, Tryd.ntmps10
  go_wp2_with fail
  refine HR.out.mono ?_
  rintro e w1 ⟨rfl, hb⟩
  have HB := Lib.hid hb
  clear hb
  go_wp2_with fail
  go_ret
  exact ⟨rfl, HB.out⟩
set_option maxRecDepth 100000 in
set_option maxHeartbeats 400000 in
theorem refNode_any (R : RefSum) (a b : ByteArray) (w : World) (ha : a.size ≤ 500) (hb : b.size ≤ 500) : Calls Tryd.prog 12 #[.string a, .string b] w (StrEnd (nodeS Sha.shaS a b) w) := by
  have HR := Lib.hid (R.sum (⟨#[1]⟩ ++ a ++ b) w (by rw [ByteArray.size_append, ByteArray.size_append]; show 1 + a.size + b.size ≤ 2000; omega))
  unfold nodeS
  go_enter Tryd.func12, Tryd.ntmps12
  go_wp2_with fail
  refine HR.out.mono ?_
  rintro e w1 ⟨rfl, hb⟩
  have HB := Lib.hid hb
  clear hb
  go_wp2_with fail
  go_ret
  exact ⟨rfl, HB.out⟩
set_option maxRecDepth 100000 in
set_option maxHeartbeats 400000 in
theorem refChain_any (R : RefSum) (a b : ByteArray) (w : World) (ha : a.size ≤ 500) (hb : b.size ≤ 500) : Calls Tryd.prog 14 #[.string a, .string b] w (StrEnd (chainS Sha.shaS a b) w) := by
  have HR := Lib.hid (R.sum (⟨#[2]⟩ ++ a ++ b) w (by rw [ByteArray.size_append, ByteArray.size_append]; show 1 + a.size + b.size ≤ 2000; omega))
  unfold chainS
  go_enter Tryd.func14, Tryd.ntmps14
  go_wp2_with fail
  refine HR.out.mono ?_
  rintro e w1 ⟨rfl, hb⟩
  have HB := Lib.hid hb
  clear hb
  go_wp2_with fail
  go_ret
  exact ⟨rfl, HB.out⟩

end Go.Proofs.YtbaggjhjkignkaaDoor

