/-
  The reference's part and Extension, under the contract of its Sum.
-/
import Derived.Test.YtbaggjhjkignkaaDoorRefProof
namespace Go.Proofs.YtbaggjhjkignkaaDoor
open Go.RowKit Tree

/-- A row of strings as an answer. -/
def RowsEnd (L : List ByteArray) (w : World) (e : Ending) (w' : World) : Prop := (∃ v, e = .returned v ∧ StrOwn w' w.heap.size v L) ∧ Below w.heap.size w w'

set_option maxRecDepth 100000 in
set_option maxHeartbeats 2000000 in
theorem refPart_any (R : RefSum) : ∀ (n : Nat) (L : List ByteArray) (m : Nat) (b off : Nat) (c : Nat) (whole : Bool) (w : World), L.length ≤ n → b < w.heap.size → StrA w (some ⟨b, off, none⟩) c L → (∀ x ∈ L, x.size ≤ 1000) → 1 ≤ m → m ≤ L.length → L.length < 1000000 →
    Calls Tryd.prog 36 #[.slice (some ⟨b, off, none⟩) L.length c, .int .i64 m, .bool whole] w (RowsEnd (partS Sha.shaS L m whole) w)
  | n, L, m, b, off, c, whole, w, hn, hb0, hA, hx, hm1, hm2, hL => by
    have hc := hA.1
    have hcm := hA.2.1
    unfold maxLen at hcm
    obtain ⟨i0, hi0, hz0, hz1, hz2⟩ := info_parts info_string
    by_cases hme : m = L.length
    · have hp := partS_all (whole := whole) Sha.shaS (show L.length ≤ m by omega)
      have HP := Lib.hid hp
      clear hp
      have HR := Lib.hid (refRoot_any R L.length L (some ⟨b, off, none⟩) c w (Nat.le_refl _) hA hx)
      generalize rootS Sha.shaS L = r at *
      generalize partS Sha.shaS L m whole = Q at *
      subst hme
      have HA := Lib.hid hA
      clear hA hx
      cases whole
      · go_enter Tryd.func36, Tryd.ntmps36
        go_wp2_with fail
        refine HR.out.mono ?_
        rintro e w3 ⟨rfl, hb3⟩
        have HB := Lib.hid hb3
        clear hb3
        go_wp2_with fail
        go_ret
        rw [HP.out]
        exact ⟨⟨_, rfl, (StrOwn.lit w3 r).mono HB.out.size⟩, HB.out.alloc HB.out.size _⟩
      · go_enter Tryd.func36, Tryd.ntmps36
        go_wp2_with fail
        go_ret
        rw [HP.out]
        exact ⟨⟨_, rfl, World.ownsRow_nil _ _ _ _⟩, Below.refl _ _⟩
    · cases n with
      | zero => omega
      | succ n =>
        have h2 : 2 ≤ L.length := by omega
        have hk0 := leftN_pos L.length
        have hk1 := leftN_lt h2
        have hT1 : (L.take (leftN L.length)).length = leftN L.length := by rw [List.length_take]; omega
        have hD1 : (L.drop (leftN L.length)).length = L.length - leftN L.length := List.length_drop
        have HS := Lib.hid (refLeft_any L.length w h2 (by omega))
        by_cases hik : m ≤ leftN L.length
        · have hpl : (partS Sha.shaS (L.take (leftN L.length)) m whole).length ≤ 21 := part_len Sha.shaS 20 _ _ _ (by rw [hT1]; omega)
          have R1 := fun W (hW : b < W.heap.size) (hS : StrA W (some ⟨b, off, none⟩) c L) => refPart_any R n (L.take (leftN L.length)) m b off c whole W (by omega) hW (hS.take _) (fun x h => hx x (List.mem_of_mem_take h)) hm1 (by omega) (by omega)
          have R2 := fun W (hS : StrA W (some ⟨b, off, none⟩) c L) => refRoot_any R n (L.drop (leftN L.length)) (some ⟨b, off + leftN L.length, none⟩) (c - leftN L.length) W (by omega) (hS.drop _) (fun x h => hx x (List.mem_of_mem_drop h))
          rw [hT1] at R1
          rw [hD1] at R2
          have HP := Lib.hid (partS_low (whole := whole) Sha.shaS hm1 (show m < L.length by omega) hik)
          generalize partS Sha.shaS (L.take (leftN L.length)) m whole = P at *
          generalize rootS Sha.shaS (L.drop (leftN L.length)) = r at *
          generalize partS Sha.shaS L m whole = Q at *
          have HA := Lib.hid hA
          have HR1 := Lib.hid R1
          have HR2 := Lib.hid R2
          have hcz : c ≠ 0 := by omega
          clear R1 R2 hT1 hD1 hA hx
          generalize hln : L.length = n at *
          generalize leftN n = k at *
          have d1 : ((m : Int) == (n : Int)) = false := by simp; omega
          have d4 : (m : Int) ≤ (k : Int) := by omega
          have hck : (c == k) = false := by simp; omega
          have hkn : (k : Int) ≤ (n : Int) := by omega
          have hkc : (k : Int) ≤ (c : Int) := by omega
          have hnc : (n : Int) ≤ (c : Int) := by omega
          have HLN := Lib.hid hln
          clear hln
          go_enter Tryd.func36, Tryd.ntmps36
          go_wp2_with fail
          refine HS.out.mono ?_
          rintro e w2 ⟨rfl, rfl⟩
          go_wp2_with fail
          have hd : Below w.heap.size w w.drew := (Below.refl _ _).drew
          have hb1 : b < w.drew.heap.size := hb0
          go_region_held3 (fun _ => True) (trivial) (first | (go_at_call 36; ((with_reducible refine (HR1.out _ hb1 (HA.out.below hd)).mono ?_); rintro e w4 ⟨⟨v, rfl, hown⟩, hb4⟩)) | (go_at_call 22; ((with_reducible refine (HR2.out _ (HA.out.below (below_step hd hb4))).mono ?_); rintro e w6 ⟨rfl, hb6⟩; have hz6 : w.heap.size ≤ w6.heap.size := Nat.le_trans hb4.size hb6.size)) | (refine step_append_lies _ (by rfl) _ _ _ (by rfl) w.heap.size 9 i0 _ 1 16 Tryd.underlying26 hi0 hz0 hz1 hz2 rfl (by omega) v P.length (strV P) (by rfl) ((StrOwn.below hown hb6).alloc _) ⟨w6.heap.size, 0, none⟩ 1 1 [.string r] (by rfl) (by rfl) (World.news_of_block (cs := #[.string r]) (t := 9) (fr := (0, 0)) (heap_alloc_new w6 _)) (by simp [Value.oneCell']) (by omega) (by unfold maxLen; omega) (by omega) (by simp; omega) (w6.heap.size + 1) (by simp) ?_; intro gg cap w7 hown2 hgrow hat hlt2))
          have hb7 : Below w.heap.size w w6 := below_step (below_step hd hb4) hb6
          have hlt : ∀ k, v.ownBlock = some k → w.heap.size ≤ k := fun k e => (World.ownsRow.lt hown k e).1
          have HE := Lib.hid (And.intro (StrOwn.snoc hown2) ((hb7.alloc hz6 _).grown hgrow (by simp; omega) hlt))
          clear hown hown2 hgrow hat hlt hb4 hb6 hb7 hd
          go_wp2_with fail
          go_ret
          rw [HP.out]
          exact ⟨⟨_, rfl, HE.out.1⟩, HE.out.2⟩
        · have hpl : (partS Sha.shaS (L.drop (leftN L.length)) (m - leftN L.length) false).length ≤ 21 := part_len Sha.shaS 20 _ _ _ (by rw [hD1]; omega)
          have R1 := fun W (hW : b < W.heap.size) (hS : StrA W (some ⟨b, off, none⟩) c L) => refPart_any R n (L.drop (leftN L.length)) (m - leftN L.length) b (off + leftN L.length) (c - leftN L.length) false W (by omega) hW (hS.drop _) (fun x h => hx x (List.mem_of_mem_drop h)) (by omega) (by omega) (by omega)
          have R2 := fun W (hS : StrA W (some ⟨b, off, none⟩) c L) => refRoot_any R n (L.take (leftN L.length)) (some ⟨b, off, none⟩) c W (by omega) (hS.take _) (fun x h => hx x (List.mem_of_mem_take h))
          rw [hD1] at R1
          rw [hT1] at R2
          have HP := Lib.hid (partS_high (whole := whole) Sha.shaS hm1 (show m < L.length by omega) hik)
          generalize partS Sha.shaS (L.drop (leftN L.length)) (m - leftN L.length) false = P at *
          generalize rootS Sha.shaS (L.take (leftN L.length)) = r at *
          generalize partS Sha.shaS L m whole = Q at *
          have HA := Lib.hid hA
          have HR1 := Lib.hid R1
          have HR2 := Lib.hid R2
          have hcz : c ≠ 0 := by omega
          clear R1 R2 hT1 hD1 hA hx
          generalize hln : L.length = n at *
          generalize leftN n = k at *
          have d1 : ((m : Int) == (n : Int)) = false := by simp; omega
          have d4 : (k : Int) < (m : Int) := by omega
          have d5 : decide ((m : Int) ≤ (k : Int)) = false := by simp; omega
          obtain ⟨j, hj⟩ : ∃ j, j = m - k := ⟨_, rfl⟩
          rw [← hj] at HR1
          have hji : IntKind.i64.wrap ((m : Int) - (k : Int)) = (j : Int) := by rw [IntWalk.i64_in _ ⟨by omega, by omega⟩]; omega
          have hji2 : (m : Int) - (k : Int) = (j : Int) := by omega
          have hck2 : ¬ c = k := by omega
          have hji3 : IntKind.i64.wrap (j : Int) = (j : Int) := IntWalk.i64_in _ ⟨by omega, by omega⟩
          clear hj
          have hck : (c == k) = false := by simp; omega
          have hkn : (k : Int) ≤ (n : Int) := by omega
          have hkc : (k : Int) ≤ (c : Int) := by omega
          have hnc : (n : Int) ≤ (c : Int) := by omega
          have HLN := Lib.hid hln
          clear hln
          go_enter Tryd.func36, Tryd.ntmps36
          go_wp2_with fail
          refine HS.out.mono ?_
          rintro e w2 ⟨rfl, rfl⟩
          go_wp2_with fail
          have hd : Below w.heap.size w w.drew := (Below.refl _ _).drew
          have hb1 : b < w.drew.heap.size := hb0
          go_region_held3 (fun _ => True) (trivial) (first | (go_at_call 36; ((with_reducible refine (HR1.out _ hb1 (HA.out.below hd)).mono ?_); rintro e w4 ⟨⟨v, rfl, hown⟩, hb4⟩)) | (go_at_call 22; ((with_reducible refine (HR2.out _ (HA.out.below (below_step hd hb4))).mono ?_); rintro e w6 ⟨rfl, hb6⟩; have hz6 : w.heap.size ≤ w6.heap.size := Nat.le_trans hb4.size hb6.size)) | (refine step_append_lies _ (by rfl) _ _ _ (by rfl) w.heap.size 9 i0 _ 1 16 Tryd.underlying26 hi0 hz0 hz1 hz2 rfl (by omega) v P.length (strV P) (by rfl) ((StrOwn.below hown hb6).alloc _) ⟨w6.heap.size, 0, none⟩ 1 1 [.string r] (by rfl) (by rfl) (World.news_of_block (cs := #[.string r]) (t := 9) (fr := (0, 0)) (heap_alloc_new w6 _)) (by simp [Value.oneCell']) (by omega) (by unfold maxLen; omega) (by omega) (by simp; omega) (w6.heap.size + 1) (by simp) ?_; intro gg cap w7 hown2 hgrow hat hlt2))
          have hb7 : Below w.heap.size w w6 := below_step (below_step hd hb4) hb6
          have hlt : ∀ k, v.ownBlock = some k → w.heap.size ≤ k := fun k e => (World.ownsRow.lt hown k e).1
          have HE := Lib.hid (And.intro (StrOwn.snoc hown2) ((hb7.alloc hz6 _).grown hgrow (by simp; omega) hlt))
          clear hown hown2 hgrow hat hlt hb4 hb6 hb7 hd
          go_wp2_with fail
          go_ret
          rw [HP.out]
          exact ⟨⟨_, rfl, HE.out.1⟩, HE.out.2⟩

set_option maxRecDepth 100000 in
set_option maxHeartbeats 400000 in
theorem refExtension_any (R : RefSum) (L : List ByteArray) (m : Nat) (b off c : Nat) (w : World) (hb0 : b < w.heap.size) (hA : StrA w (some ⟨b, off, none⟩) c L) (hx : ∀ x ∈ L, x.size ≤ 1000) (hm : m ≤ L.length) (hL : L.length < 1000000) :
    Calls Tryd.prog 19 #[.slice (some ⟨b, off, none⟩) L.length c, .int .i64 m] w (ProofEnd (extS Sha.shaS L m) 0 w) := by
  by_cases hz : m = 0
  · subst hz
    have he : ∀ w', Below w.heap.size w w' → ProofEnd (extS Sha.shaS L 0) 0 w (.returned (.tuple #[.slice none 0 0, .int .i64 0])) w' := fun w' h => by
      unfold extS; rw [if_pos rfl]; exact ⟨⟨_, rfl, World.ownsRow_nil _ _ _ _⟩, h⟩
    have HE := Lib.hid he
    clear he hA
    go_enter Tryd.func19, Tryd.ntmps19
    go_wp2_with fail
    go_ret2
    exact HE.out _ (Below.refl _ _)
  · have he : extS Sha.shaS L m = partS Sha.shaS L m true := by unfold extS; rw [if_neg hz]
    have HE := Lib.hid he
    have HR := Lib.hid (refPart_any R L.length L m b off c true w (Nat.le_refl _) hb0 hA hx (by omega) hm hL)
    clear he hA
    have d1 : ¬ ((m : Int) < 0) := by omega
    have d2 : ¬ ((L.length : Int) < (m : Int)) := by omega
    have d3 : ((m : Int) == 0) = false := by simp; omega
    go_enter Tryd.func19, Tryd.ntmps19
    go_wp2_with fail
    refine HR.out.mono ?_
    rintro e w2 ⟨⟨v, rfl, hown⟩, hb⟩
    have HO := Lib.hid (And.intro hown hb)
    clear hown hb
    go_wp2_with fail
    go_ret2
    rw [HE.out]
    exact ⟨⟨_, rfl, HO.out.1⟩, HO.out.2⟩

set_option maxRecDepth 100000 in
set_option maxHeartbeats 400000 in
theorem refExtension_no (L : List ByteArray) (m : Int) (a : Option Addr) (c : Nat) (w : World) (hm : m < 0 ∨ (L.length : Int) < m) :
    Calls Tryd.prog 19 #[.slice a L.length c, .int .i64 m] w (ProofEnd [] 2 w) := by
  have he : ∀ w', Below w.heap.size w w' → ProofEnd [] 2 w (.returned (.tuple #[.slice none 0 0, .int .i64 2])) w' := fun w' h => ⟨⟨_, rfl, World.ownsRow_nil _ _ _ _⟩, h⟩
  have HE := Lib.hid he
  clear he
  by_cases h0 : m < 0
  · go_enter Tryd.func19, Tryd.ntmps19
    go_wp2_with fail
    go_ret2
    exact HE.out _ (Below.refl _ _)
  · have h1 : decide (m < 0) = false := by simp; omega
    have h2 : (L.length : Int) < m := by omega
    go_enter Tryd.func19, Tryd.ntmps19
    go_wp2_with fail
    go_ret2
    exact HE.out _ (Below.refl _ _)
end Go.Proofs.YtbaggjhjkignkaaDoor

