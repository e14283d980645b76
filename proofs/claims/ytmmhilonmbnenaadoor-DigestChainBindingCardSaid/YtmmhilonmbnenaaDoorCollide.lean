/-
  The contract of the statements' collide: where two strings at one place clash it returns true; under the contract of Sum.
-/
import Derived.Test.YtmmhilonmbnenaaDoorHelp
import Derived.Lib.Strings
namespace Go.Proofs.YtmmhilonmbnenaaDoor
open Go.RowKit Tree

set_option maxRecDepth 100000 in
set_option maxHeartbeats 4000000 in
theorem collide_any {H : ByteArray → ByteArray} {T : World → Prop} (D : Digests H T) (A B : List ByteArray) (a b : Option Addr) (c d : Nat) (w : World) (ht : T w) (hA : StrA w a c A) (hB : StrA w b d B) (hx : ∀ x ∈ A, x.size ≤ 1000) (hy : ∀ x ∈ B, x.size ≤ 1000) (hc : Clash H A B) :
    Calls Tryd.prog 32 #[.slice a A.length c, .slice b B.length d] w fun e w' => e = .returned (.bool true) ∧ Below w.heap.size w w' := by
  obtain ⟨i, x, y, h1, h2, h3, h4⟩ := hc
  obtain ⟨hi1, e1⟩ := List.getElem?_eq_some_iff.1 h1
  obtain ⟨hi2, e2⟩ := List.getElem?_eq_some_iff.1 h2
  have HA := Lib.hid hA
  have HB := Lib.hid hB
  have hca := hA.1
  have hcb := hB.1
  have hma := hA.2.1
  have hmb := hB.2.1
  unfold maxLen at hma hmb
  clear hA hB h1 h2
  go_enter Tryd.func32, Tryd.ntmps32
  go_wp2_with fail
  go_loopw [5] (fun v wr => ∃ k : Nat, k ≤ i ∧ v = .int .i64 k ∧ Below w.heap.size w wr) (fun v _ => A.length - (intOf v).toNat)
  case atStart => exact ⟨0, by omega, rfl, Below.refl _ _⟩
  case round =>
    obtain ⟨k, hk, rfl, hbr⟩ := hrel
    have hka : k < A.length := by omega
    have hkb : k < B.length := by omega
    obtain ⟨p, off, rfl, l1, l2⟩ := HA.out.2.2 k hka
    obtain ⟨p', off', rfl, m1, m2⟩ := HB.out.2.2 k hkb
    have hsx := hx _ (List.getElem_mem hka)
    have hsy := hy _ (List.getElem_mem hkb)
    have hlast : k = i → A[k] ≠ B[k] ∧ H A[k] = H B[k] := by rintro rfl; rw [e1, e2]; exact ⟨h3, h4⟩
    generalize A[k] = u at *
    generalize B[k] = v at *
    have hki : (k : Int) < (A.length : Int) := by omega
    have hkj : (k : Int) < (B.length : Int) := by omega
    have hC1 : ∀ W, Below w.heap.size w W → W.cell? ⟨p, off + k, none⟩ = some (.string u) := fun W hb => (hb.cell (p := ⟨p, off + k, none⟩) l1).trans l2
    have hC2 : ∀ W, Below w.heap.size w W → W.cell? ⟨p', off' + k, none⟩ = some (.string v) := fun W hb => (hb.cell (p := ⟨p', off' + k, none⟩) m1).trans m2
    have hb0 : Below w.heap.size w wr.drew := hbr.drew
    have HC1 := Lib.hid hC1
    have HC2 := Lib.hid hC2
    have SU := Lib.hid (fun W hb => D.sum u W (D.below ht hb) (by omega))
    have SV := Lib.hid (fun W hb => D.sum v W (D.below ht hb) (by omega))
    have HLast := Lib.hid hlast
    clear hC1 hC2 l1 l2 m1 m2 hlast e1 e2 h4 hx hy
    by_cases huv : u = v
    · subst huv
      have hki' : k ≠ i := fun e => (HLast.out e).1 rfl
      have hk1 : k + 1 ≤ i := by omega
      have c1 := HC1.out wr hbr
      have c2 := HC2.out wr hbr
      go_wp2_with fail
      go_quiet (fail)
      go_wp2_with fail
      go_roundw
      case rel => exact ⟨k + 1, hk1, by go_num, below_drewN hbr _⟩
      case measure => simp [intOf]; omega
    · have hne : (u.toList == v.toList) = false := by
        rw [beq_eq_false_iff_ne]
        intro h
        rw [Lib.toList_data, Lib.toList_data] at h
        exact huv (ByteArray.ext (Array.toList_inj.1 h))
      have hcase : ((H u).toList == (H v).toList) = true ∨ (((H u).toList == (H v).toList) = false ∧ k ≠ i) := by
        by_cases hh : H u = H v
        · exact .inl (by rw [beq_iff_eq, hh])
        · refine .inr ⟨?_, fun e => hh (HLast.out e).2⟩
          rw [beq_eq_false_iff_ne]
          intro h
          rw [Lib.toList_data, Lib.toList_data] at h
          exact hh (ByteArray.ext (Array.toList_inj.1 h))
      generalize H u = hu at *
      generalize H v = hv at *
      have hK := fun (W W' : World) (h : W.cell? ⟨p, off + k, none⟩ = some (.string u) ∧ W.cell? ⟨p', off' + k, none⟩ = some (.string v) ∧ Below w.heap.size w W) (hb : Below W.heap.size W W') =>
        (show W'.cell? ⟨p, off + k, none⟩ = some (.string u) ∧ W'.cell? ⟨p', off' + k, none⟩ = some (.string v) ∧ Below w.heap.size w W' from ⟨HC1.out _ (below_step h.2.2 hb), HC2.out _ (below_step h.2.2 hb), below_step h.2.2 hb⟩)
      have HK := Lib.hid hK
      clear hK
      rcases hcase with hq | ⟨hq, hki'⟩
      · go_wp2_with fail
        go_region_held3 (fun w' => w'.cell? ⟨p, off + k, none⟩ = some (.string u) ∧ w'.cell? ⟨p', off' + k, none⟩ = some (.string v) ∧ Below w.heap.size w w') (first | exact ⟨HC1.out _ hb0, HC2.out _ hb0, hb0⟩ | exact HK.out _ _ (by assumption) hb4)
          (first | (go_at_call 12; refine (SU.out _ (And.right (And.right (by assumption)))).mono ?_; rintro e w4 ⟨rfl, hb4⟩) | (go_at_call 12; refine (SV.out _ (And.right (And.right (by assumption)))).mono ?_; rintro e w4 ⟨rfl, hb4⟩))
        go_wp2_with fail
        go_ret
        exact ⟨rfl, And.right (And.right (by assumption))⟩
      · have hk1 : k + 1 ≤ i := by omega
        go_wp2_with fail
        go_region_held3 (fun w' => w'.cell? ⟨p, off + k, none⟩ = some (.string u) ∧ w'.cell? ⟨p', off' + k, none⟩ = some (.string v) ∧ Below w.heap.size w w') (first | exact ⟨HC1.out _ hb0, HC2.out _ hb0, hb0⟩ | exact HK.out _ _ (by assumption) hb4)
          (first | (go_at_call 12; refine (SU.out _ (And.right (And.right (by assumption)))).mono ?_; rintro e w4 ⟨rfl, hb4⟩) | (go_at_call 12; refine (SV.out _ (And.right (And.right (by assumption)))).mono ?_; rintro e w4 ⟨rfl, hb4⟩))
        go_wp2_with fail
        go_roundw
        case rel => exact ⟨k + 1, hk1, by go_num, And.right (And.right (by assumption))⟩
        case measure => simp [intOf]; omega
end Go.Proofs.YtmmhilonmbnenaaDoor
