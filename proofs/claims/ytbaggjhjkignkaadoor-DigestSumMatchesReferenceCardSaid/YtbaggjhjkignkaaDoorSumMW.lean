/-
  The walk of DigestSumMatchesReference: Sum, Leaf, Node and Chain agree with the reference's.
-/
import Derived.Test.YtbaggjhjkignkaaDoorRefSumF
import Derived.Test.YtbaggjhjkignkaaDoorSane
namespace Go.Proofs.YtbaggjhjkignkaaDoor
open Go.RowKit Go.Shelf Tree

theorem eq_self_list (x : ByteArray) : (x.toList == x.toList) = true := beq_self_eq_true _

set_option maxRecDepth 100000 in
set_option maxHeartbeats 2000000 in
theorem sumMatches_walk (s t : ByteArray) (w : World) (ht : Tab w) (_ : s.size ≤ maxLen) (_ : t.size ≤ maxLen) :
    Calls Tryd.prog 3 #[.string s, .string t] w fun e w' => e = .returned (.bool true) ∧ Below w.heap.size w w' := by
  obtain ⟨S, hS⟩ : ∃ S, s.extract 0 (min (s.size : Int) 500).toNat = S := ⟨_, rfl⟩
  obtain ⟨T, hT⟩ : ∃ S, t.extract 0 (min (t.size : Int) 500).toNat = S := ⟨_, rfl⟩
  have sS : S.size ≤ 500 := by rw [← hS, ByteArray.size_extract]; omega
  have sT : T.size ≤ 500 := by rw [← hT, ByteArray.size_extract]; omega
  have a1 := fun w h => sum_any S w h (by omega)
  have b1 := fun w => refSum_any S w (by omega)
  have a2 := fun w h => leaf_any T w h (by omega)
  have b2 := fun w => refLeaf_any refSum_is T w (by omega)
  have a3 := fun w h => node_any S T w h sS sT
  have b3 := fun w => refNode_any refSum_is S T w sS sT
  have a4 := fun w h => chain_any T S w h sT sS
  have b4 := fun w => refChain_any refSum_is T S w sT sS
  unfold StrEnd at b1 b2 b3 b4
  generalize Sha.shaS S = u1 at *
  generalize leafS Sha.shaS T = u2 at *
  generalize nodeS Sha.shaS S T = u3 at *
  generalize chainS Sha.shaS T S = u4 at *
  have A1 := Lib.hid a1; have A2 := Lib.hid a2; have A3 := Lib.hid a3; have A4 := Lib.hid a4
  have B1 := Lib.hid b1; have B2 := Lib.hid b2; have B3 := Lib.hid b3; have B4 := Lib.hid b4
  have T0 := Lib.hid ht
  have e1 := eq_self_list u1; have e2 := eq_self_list u2; have e3 := eq_self_list u3; have e4 := eq_self_list u4
  clear a1 a2 a3 a4 b1 b2 b3 b4 ht sS sT
  go_enter Tryd.func3, Tryd.ntmps3
  go_wp2_with fail
  refine (sane_any _ T0.out).mono ?_; rintro e w1 ⟨rfl, g1⟩
  have Lc := Lib.hid g1
  go_wp2_with fail
  refine (A1.out _ (T0.out.below Lc.out)).mono ?_; rintro e w2 ⟨rfl, g2⟩
  have Lc := Lib.hid (below_step Lc.out g2)
  go_wp2_with fail
  refine (B1.out _).mono ?_; rintro e w3 ⟨rfl, g3⟩
  have Lc := Lib.hid (below_step Lc.out g3)
  go_wp2_with fail
  refine (A2.out _ (T0.out.below Lc.out)).mono ?_; rintro e w4 ⟨rfl, g4⟩
  have Lc := Lib.hid (below_step Lc.out g4)
  go_wp2_with fail
  refine (B2.out _).mono ?_; rintro e w5 ⟨rfl, g5⟩
  have Lc := Lib.hid (below_step Lc.out g5)
  go_wp2_with fail
  refine (A3.out _ (T0.out.below Lc.out)).mono ?_; rintro e w6 ⟨rfl, g6⟩
  have Lc := Lib.hid (below_step Lc.out g6)
  go_wp2_with fail
  refine (B3.out _).mono ?_; rintro e w7 ⟨rfl, g7⟩
  have Lc := Lib.hid (below_step Lc.out g7)
  go_wp2_with fail
  refine (A4.out _ (T0.out.below Lc.out)).mono ?_; rintro e w8 ⟨rfl, g8⟩
  have Lc := Lib.hid (below_step Lc.out g8)
  go_wp2_with fail
  refine (B4.out _).mono ?_; rintro e w9 ⟨rfl, g9⟩
  have Lc := Lib.hid (below_step Lc.out g9)
  go_wp2_with fail
  go_ret
  exact ⟨rfl, Lc.out⟩
end Go.Proofs.YtbaggjhjkignkaaDoor

