/-
  The reference's Proof, under the contract of its Sum.
-/
import Derived.Test.YtbaggjhjkignkaaDoorRefRoot
import Derived.Test.YtbaggjhjkignkaaDoorProof
namespace Go.Proofs.YtbaggjhjkignkaaDoor
open Go.RowKit Tree

set_option maxRecDepth 100000 in
set_option maxHeartbeats 2000000 in
theorem refProof_yes (R : RefSum) : ∀ (m : Nat) (L : List ByteArray) (i : Nat) (a : Option Addr) (c : Nat) (w : World), L.length ≤ m → StrA w a c L → (∀ x ∈ L, x.size ≤ 1000) → i < L.length → L.length < 1000000 →
    Calls Tryd.prog 17 #[.slice a L.length c, .int .i64 i] w (ProofEnd (proofS Sha.shaS L i) 0 w)
  | m, L, i, a, c, w, hm, hA, hx, hi, hL => by
    have hc := hA.1
    have hcm := hA.2.1
    unfold maxLen at hcm
    obtain ⟨i0, hi0, hz0, hz1, hz2⟩ := info_parts info_string
    by_cases h2 : 2 ≤ L.length
    · cases m with
      | zero => omega
      | succ m =>
        obtain ⟨b, off, rfl, lb⟩ := hA.place (by omega)
        have hk0 := leftN_pos L.length
        have hk1 := leftN_lt h2
        have hT1 : (L.take (leftN L.length)).length = leftN L.length := by rw [List.length_take]; omega
        have hD1 : (L.drop (leftN L.length)).length = L.length - leftN L.length := List.length_drop
        have HS := Lib.hid (refLeft_any L.length w h2 (by omega))
        have hpl : ∀ j, (proofS Sha.shaS (L.take (leftN L.length)) j).length ≤ 20 := fun j => proof_len Sha.shaS 20 _ _ (by rw [hT1]; omega)
        have hpl2 : ∀ j, (proofS Sha.shaS (L.drop (leftN L.length)) j).length ≤ 20 := fun j => proof_len Sha.shaS 20 _ _ (by rw [hD1]; omega)
        by_cases hik : i < leftN L.length
        · have R1 := refProof_yes R m (L.take (leftN L.length)) i (some ⟨b, off, none⟩) c w (by omega) (hA.take _) (fun x h => hx x (List.mem_of_mem_take h)) (by omega) (by omega)
          have R2 := fun W (hS : StrA W (some ⟨b, off, none⟩) c L) => refRoot_any R m (L.drop (leftN L.length)) (some ⟨b, off + leftN L.length, none⟩) (c - leftN L.length) W (by omega) (hS.drop _) (fun x h => hx x (List.mem_of_mem_drop h))
          rw [hT1] at R1
          rw [hD1] at R2
          have hpl := hpl i
          have HP := Lib.hid (proofS_low Sha.shaS h2 hik)
          generalize proofS Sha.shaS (L.take (leftN L.length)) i = P at *
          generalize rootS Sha.shaS (L.drop (leftN L.length)) = r at *
          generalize proofS Sha.shaS L i = Q at *
          have HA := Lib.hid hA
          have HR1 := Lib.hid R1
          have HR2 := Lib.hid R2
          have hcz : c ≠ 0 := by omega
          clear R1 R2 hT1 hD1 hA hx hpl2
          generalize hln : L.length = n at *
          generalize leftN n = k at *
          have d1 : ((n : Int) == 1) = false := by simp; omega
          have d2 : ¬ ((i : Int) < 0) := by omega
          have d3 : ¬ ((n : Int) ≤ (i : Int)) := by omega
          have d4 : (i : Int) < (k : Int) := by omega
          have hck : (c == k) = false := by simp; omega
          have hkn : (k : Int) ≤ (n : Int) := by omega
          have hkc : (k : Int) ≤ (c : Int) := by omega
          have hnc : (n : Int) ≤ (c : Int) := by omega
          have HLN := Lib.hid hln
          clear hln
          go_enter Tryd.func17, Tryd.ntmps17
          go_wp2_with fail
          refine HS.out.mono ?_
          rintro e w2 ⟨rfl, rfl⟩
          go_wp2_with fail
          refine HR1.out.mono ?_
          rintro e w2 ⟨⟨v, rfl, hown⟩, hb⟩
          have HO := Lib.hid (And.intro hown hb)
          clear hown hb
          go_wp2_with fail
          refine (HR2.out w2 (HA.out.below HO.out.2)).mono ?_
          rintro e w3 ⟨rfl, hb3⟩
          have hb : Below w.heap.size w w3 := below_step HO.out.2 hb3
          have hown : w3.ownsRow w.heap.size 9 1 v P.length (strV P) := HO.out.1.below hb3
          have hB := hb.size
          have hlt := fun k e => (hown.lt k e).1
          have HB3 := Lib.hid hb3
          clear hb3
          go_wp2_with (at_builtin; refine wpList_append_own _ rfl _ _ 26 rfl w.heap.size 9 i0 (.string ⟨#[]⟩) 1 16 Tryd.underlying26 hi0 hz0 hz1 hz2 rfl (by decide) _ _ _ rfl (hown.alloc _) ⟨w3.heap.size, 0, none⟩ 1 1 [.string r] rfl rfl (cell_one_new _ _ _) (by simp [Value.oneCell']) (by unfold maxLen; omega) (by omega) (by simp; omega) ?_; intro v' w4 hown' hgrow _; have hb5 : Below w.heap.size w w4 := (hb.alloc hB _).grown hgrow (by simp; omega) hlt)
          have HE := Lib.hid (And.intro hown' hb5)
          clear hown' hb5 hgrow hown hb
          go_ret2
          refine ⟨⟨_, rfl, ?_⟩, HE.out.2⟩
          rw [HP.out]
          exact StrOwn.snoc HE.out.1
        · have R1 := refProof_yes R m (L.drop (leftN L.length)) (i - leftN L.length) (some ⟨b, off + leftN L.length, none⟩) (c - leftN L.length) w (by omega) (hA.drop _) (fun x h => hx x (List.mem_of_mem_drop h)) (by omega) (by omega)
          have R2 := fun W (hS : StrA W (some ⟨b, off, none⟩) c L) => refRoot_any R m (L.take (leftN L.length)) (some ⟨b, off, none⟩) c W (by omega) (hS.take _) (fun x h => hx x (List.mem_of_mem_take h))
          rw [hD1] at R1
          rw [hT1] at R2
          have hpl := hpl2 (i - leftN L.length)
          have HP := Lib.hid (proofS_high Sha.shaS h2 hik)
          generalize proofS Sha.shaS (L.drop (leftN L.length)) (i - leftN L.length) = P at *
          generalize rootS Sha.shaS (L.take (leftN L.length)) = r at *
          generalize proofS Sha.shaS L i = Q at *
          have HA := Lib.hid hA
          have HR1 := Lib.hid R1
          have HR2 := Lib.hid R2
          have hcz : c ≠ 0 := by omega
          clear R1 R2 hT1 hD1 hA hx hpl2
          generalize hln : L.length = n at *
          generalize leftN n = k at *
          have d1 : ((n : Int) == 1) = false := by simp; omega
          have d2 : ¬ ((i : Int) < 0) := by omega
          have d3 : ¬ ((n : Int) ≤ (i : Int)) := by omega
          have d4 : (k : Int) ≤ (i : Int) := by omega
          obtain ⟨j, hj⟩ : ∃ j, j = i - k := ⟨_, rfl⟩
          rw [← hj] at HR1
          have hji : IntKind.i64.wrap ((i : Int) - (k : Int)) = (j : Int) := by rw [IntWalk.i64_in _ ⟨by omega, by omega⟩]; omega
          have hji2 : (i : Int) - (k : Int) = (j : Int) := by omega
          clear hj
          have hck : (c == k) = false := by simp; omega
          have hkn : (k : Int) ≤ (n : Int) := by omega
          have hkc : (k : Int) ≤ (c : Int) := by omega
          have hnc : (n : Int) ≤ (c : Int) := by omega
          have HLN := Lib.hid hln
          clear hln
          go_enter Tryd.func17, Tryd.ntmps17
          go_wp2_with fail
          refine HS.out.mono ?_
          rintro e w2 ⟨rfl, rfl⟩
          go_wp2_with fail
          refine HR1.out.mono ?_
          rintro e w2 ⟨⟨v, rfl, hown⟩, hb⟩
          have HO := Lib.hid (And.intro hown hb)
          clear hown hb
          go_wp2_with fail
          refine (HR2.out w2 (HA.out.below HO.out.2)).mono ?_
          rintro e w3 ⟨rfl, hb3⟩
          have hb : Below w.heap.size w w3 := below_step HO.out.2 hb3
          have hown : w3.ownsRow w.heap.size 9 1 v P.length (strV P) := HO.out.1.below hb3
          have hB := hb.size
          have hlt := fun k e => (hown.lt k e).1
          have HB3 := Lib.hid hb3
          clear hb3
          go_wp2_with (at_builtin; refine wpList_append_own _ rfl _ _ 26 rfl w.heap.size 9 i0 (.string ⟨#[]⟩) 1 16 Tryd.underlying26 hi0 hz0 hz1 hz2 rfl (by decide) _ _ _ rfl (hown.alloc _) ⟨w3.heap.size, 0, none⟩ 1 1 [.string r] rfl rfl (cell_one_new _ _ _) (by simp [Value.oneCell']) (by unfold maxLen; omega) (by omega) (by simp; omega) ?_; intro v' w4 hown' hgrow _; have hb5 : Below w.heap.size w w4 := (hb.alloc hB _).grown hgrow (by simp; omega) hlt)
          have HE := Lib.hid (And.intro hown' hb5)
          clear hown' hb5 hgrow hown hb
          go_ret2
          refine ⟨⟨_, rfl, ?_⟩, HE.out.2⟩
          rw [HP.out]
          exact StrOwn.snoc HE.out.1
    · match L, h2, hi, hA with
      | [], _, hi, _ => exact absurd hi (by simp)
      | [x], _, hi, hA =>
        have hi1 : i = 0 := by simp at hi; omega
        subst hi1
        have he : ∀ w', Below w.heap.size w w' → ProofEnd (proofS Sha.shaS [x] 0) 0 w (.returned (.tuple #[.slice none 0 0, .int .i64 0])) w' := fun w' h => by
          rw [proofS_one Sha.shaS (by simp)]; exact ⟨⟨_, rfl, World.ownsRow_nil _ _ _ _⟩, h⟩
        have HE := Lib.hid he
        clear he hA
        go_enter Tryd.func17, Tryd.ntmps17
        go_wp2_with fail
        go_ret2
        exact HE.out _ (Below.refl _ _)
      | _ :: _ :: _, h2, _, _ => exact absurd (by simp) h2

set_option maxRecDepth 100000 in
set_option maxHeartbeats 400000 in
theorem refProof_no (L : List ByteArray) (i : Int) (a : Option Addr) (c : Nat) (w : World) (hi : i < 0 ∨ (L.length : Int) ≤ i) :
    Calls Tryd.prog 17 #[.slice a L.length c, .int .i64 i] w (ProofEnd [] 2 w) := by
  have he : ∀ w', Below w.heap.size w w' → ProofEnd [] 2 w (.returned (.tuple #[.slice none 0 0, .int .i64 2])) w' := fun w' h => ⟨⟨_, rfl, World.ownsRow_nil _ _ _ _⟩, h⟩
  have HE := Lib.hid he
  clear he
  by_cases h0 : i < 0
  · go_enter Tryd.func17, Tryd.ntmps17
    go_wp2_with fail
    go_ret2
    exact HE.out _ (Below.refl _ _)
  · have h1 : decide (i < 0) = false := by simp; omega
    have h2 : (L.length : Int) ≤ i := by omega
    go_enter Tryd.func17, Tryd.ntmps17
    go_wp2_with fail
    go_ret2
    exact HE.out _ (Below.refl _ _)
end Go.Proofs.YtbaggjhjkignkaaDoor

