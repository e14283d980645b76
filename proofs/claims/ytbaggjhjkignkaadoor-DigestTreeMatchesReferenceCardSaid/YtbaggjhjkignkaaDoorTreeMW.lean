/-
  The walk of DigestTreeMatchesReference: Root, Proof and Extension agree with the reference's. It holds again what ExtAcc, ProofAcc and Heads say of Extension, Proof and refSame, for a claim has at most 60 files: no text may import it and those.
-/
import Derived.Test.YtbaggjhjkignkaaDoorRefSumF
import Derived.Test.YtbaggjhjkignkaaDoorRefPart
import Derived.Test.YtbaggjhjkignkaaDoorAll
namespace Go.Proofs.YtbaggjhjkignkaaDoor
open Go.RowKit Go.Shelf Tree

/-- What a walk with one list keeps. -/
def OneAt (w : World) (a : Option Addr) (c : Nat) (L : List ByteArray) (V : World) : Prop := Tab V ∧ StrA V a c L ∧ Below w.heap.size w V
theorem OneAt.step {w V V' : World} {a : Option Addr} {c : Nat} {L : List ByteArray} (h : OneAt w a c L V) (hb : Below V.heap.size V V') : OneAt w a c L V' :=
  ⟨h.1.below hb, h.2.1.below hb, below_step h.2.2 hb⟩

/-- Extension at all numbers. -/
theorem ext_all (L : List ByteArray) (m : Int) (a : Option Addr) (c : Nat) (w : World) (ht : Tab w) (hA : StrA w a c L) (hx : ∀ x ∈ L, x.size ≤ 1000) (hL : L.length < 1000000) :
    Calls Tryd.prog 18 #[.slice a L.length c, .int .i64 m] w (ProofEnd (if 0 ≤ m ∧ m ≤ L.length then extS Sha.shaS L m.toNat else []) (if 0 ≤ m ∧ m ≤ L.length then 0 else 2) w) := by
  by_cases h : 0 ≤ m ∧ m ≤ L.length
  · rw [if_pos h, if_pos h]
    by_cases h0 : m = 0
    · subst h0
      exact ext_zero L a c w
    · obtain ⟨b, off, rfl, _⟩ := hA.place (by omega)
      have := ext_yes L m.toNat b off c w ht hA hx (by omega) (by omega) hL
      rw [show ((m.toNat : Nat) : Int) = m by omega] at this
      exact this
  · rw [if_neg h, if_neg h]
    exact ext_no L m a c w (by omega)
/-- Proof at all numbers. -/
theorem proof_all (L : List ByteArray) (i : Int) (a : Option Addr) (c : Nat) (w : World) (ht : Tab w) (hA : StrA w a c L) (hx : ∀ x ∈ L, x.size ≤ 1000) (hL : L.length < 1000000) :
    Calls Tryd.prog 16 #[.slice a L.length c, .int .i64 i] w (ProofEnd (if 0 ≤ i ∧ i < L.length then proofS Sha.shaS L i.toNat else []) (if 0 ≤ i ∧ i < L.length then 0 else 2) w) := by
  by_cases h : 0 ≤ i ∧ i < L.length
  · rw [if_pos h, if_pos h]
    obtain ⟨b, off, rfl, _⟩ := hA.place (by omega)
    have := proof_yes L i.toNat b off c w ht hA hx (by omega) hL
    rw [show ((i.toNat : Nat) : Int) = i by omega] at this
    exact this
  · rw [if_neg h, if_neg h]
    exact proof_no L i a c w (by omega)

/-- Extension at a number that the list has. -/
theorem ext_at (L : List ByteArray) (m : Int) (a : Option Addr) (c : Nat) (w : World) (ht : Tab w) (hA : StrA w a c L) (hx : ∀ x ∈ L, x.size ≤ 1000) (hL : L.length < 1000000) (h : 0 ≤ m ∧ m ≤ L.length) (X : List ByteArray) (hX : extS Sha.shaS L m.toNat = X) :
    Calls Tryd.prog 18 #[.slice a L.length c, .int .i64 m] w fun e w' => ∃ a' c', e = .returned (.tuple #[.slice a' X.length c', .int .i64 0]) ∧ StrA w' a' c' X ∧ Below w.heap.size w w' := by
  have := ext_all L m a c w ht hA hx hL
  rw [if_pos h, if_pos h, hX] at this
  exact this.mono fun _ _ hp => proofEnd_arg hp
theorem ext_not (L : List ByteArray) (m : Int) (a : Option Addr) (c : Nat) (w : World) (h : ¬ (0 ≤ m ∧ m ≤ L.length)) :
    Calls Tryd.prog 18 #[.slice a L.length c, .int .i64 m] w fun e w' => ∃ a' c', e = .returned (.tuple #[.slice a' 0 c', .int .i64 2]) ∧ StrA w' a' c' [] ∧ Below w.heap.size w w' := by
  exact (ext_no L m a c w (by omega)).mono fun _ _ hp => proofEnd_arg hp

/-- Proof at a place that the list has. -/
theorem proof_at (L : List ByteArray) (i : Int) (a : Option Addr) (c : Nat) (w : World) (ht : Tab w) (hA : StrA w a c L) (hx : ∀ x ∈ L, x.size ≤ 1000) (hL : L.length < 1000000) (h : 0 ≤ i ∧ i < L.length) (X : List ByteArray) (hX : proofS Sha.shaS L i.toNat = X) :
    Calls Tryd.prog 16 #[.slice a L.length c, .int .i64 i] w fun e w' => ∃ a' c', e = .returned (.tuple #[.slice a' X.length c', .int .i64 0]) ∧ StrA w' a' c' X ∧ Below w.heap.size w w' := by
  have := proof_all L i a c w ht hA hx hL
  rw [if_pos h, if_pos h, hX] at this
  exact this.mono fun _ _ hp => proofEnd_arg hp
theorem proof_not (L : List ByteArray) (i : Int) (a : Option Addr) (c : Nat) (w : World) (h : ¬ (0 ≤ i ∧ i < L.length)) :
    Calls Tryd.prog 16 #[.slice a L.length c, .int .i64 i] w fun e w' => ∃ a' c', e = .returned (.tuple #[.slice a' 0 c', .int .i64 2]) ∧ StrA w' a' c' [] ∧ Below w.heap.size w w' := by
  exact (proof_no L i a c w (by omega)).mono fun _ _ hp => proofEnd_arg hp
set_option maxRecDepth 100000 in
set_option maxHeartbeats 1000000 in
theorem same_any (a b : Option Addr) (c d : Nat) (A B : List ByteArray) (w : World) (hA : StrA w a c A) (hB : StrA w b d B) :
    Calls Tryd.prog 20 #[.slice a A.length c, .slice b B.length d] w fun e w' => e = .returned (.bool (decide (A = B))) ∧ Below w.heap.size w w' := by
  have HA := Lib.hid hA
  have HB := Lib.hid hB
  have hca := hA.1
  have hcb := hB.1
  have hma := hA.2.1
  have hmb := hB.2.1
  unfold maxLen at hma hmb
  clear hA hB
  by_cases hl : A.length = B.length
  · have hl1 : ((A.length : Int) != (B.length : Int)) = false := by rw [hl]; simp
    have HL := Lib.hid hl
    obtain ⟨q, hq⟩ : ∃ q, q = decide (A = B) := ⟨_, rfl⟩
    rw [← hq]
    have HQ := Lib.hid hq
    clear hl hq
    go_enter Tryd.func20, Tryd.ntmps20
    go_wp2_with fail
    go_loopw [5] (fun v wr => ∃ k : Nat, k ≤ A.length ∧ v = .int .i64 k ∧ A.take k = B.take k ∧ Below w.heap.size w wr) (fun v _ => A.length - (intOf v).toNat)
    case atStart => exact ⟨0, by omega, rfl, rfl, Below.refl _ _⟩
    case round =>
      obtain ⟨k, hk, rfl, hT, hbr⟩ := hrel
      have HT := Lib.hid hT
      clear hT
      by_cases hka : k < A.length
      · have hkb : k < B.length := by have := HL.out; omega
        obtain ⟨p, off, rfl, l1, l2⟩ := HA.out.2.2 k hka
        obtain ⟨p', off', rfl, m1, m2⟩ := HB.out.2.2 k hkb
        have c1 : wr.cell? ⟨p, off + k, none⟩ = some (.string A[k]) := (hbr.cell (p := ⟨p, off + k, none⟩) l1).trans l2
        have c2 : wr.cell? ⟨p', off' + k, none⟩ = some (.string B[k]) := (hbr.cell (p := ⟨p', off' + k, none⟩) m1).trans m2
        have hki : (k : Int) < (A.length : Int) := by omega
        have hkj : (k : Int) < (B.length : Int) := by omega
        have HK := Lib.hid (And.intro hka hkb)
        have hsuc : A[k] = B[k] → A.take (k + 1) = B.take (k + 1) := fun e => by rw [List.take_succ_eq_append_getElem hka, List.take_succ_eq_append_getElem hkb, HT.out, e]
        have hnot : A[k] ≠ B[k] → ¬ A = B := fun h e => h (by subst e; rfl)
        have HS := Lib.hid (And.intro hsuc hnot)
        clear l1 l2 m1 m2 hsuc hnot
        generalize A[k] = u at *
        generalize B[k] = v at *
        by_cases huv : u = v
        · have HT1 := Lib.hid (HS.out.1 huv)
          subst huv
          clear HS
          go_wp2_with fail
          go_quiet (fail)
          go_wp2_with fail
          go_roundw
          case rel => exact ⟨k + 1, by omega, by go_num, HT1.out, below_drewN hbr _⟩
          case measure => simp [intOf]; omega
        · have hne : (u.toList == v.toList) = false := beq_eq_false_iff_ne.2 (fun e => huv (toList_iff.1 e))
          have HD := Lib.hid (decide_eq_false (HS.out.2 huv))
          clear huv
          go_wp2_with fail
          go_quiet (fail)
          go_wp2_with fail
          go_ret
          exact ⟨by rw [HQ.out, HD.out]; rfl, below_drewN hbr _⟩
      · have hAB : A = B := by
          have := HT.out
          rwa [List.take_of_length_le (by omega), List.take_of_length_le (by have := HL.out; omega)] at this
        have HD := Lib.hid (decide_eq_true hAB)
        clear hAB
        have hki : ¬ ((k : Int) < (A.length : Int)) := by omega
        go_wp2_with fail
        go_ret
        exact ⟨by rw [HQ.out, HD.out]; rfl, hbr⟩
  · have hl1 : ((A.length : Int) != (B.length : Int)) = true := by simp; omega
    have hd : decide (A = B) = false := decide_eq_false (fun e => hl (by rw [e]))
    rw [hd]
    clear hl hd
    go_enter Tryd.func20, Tryd.ntmps20
    go_wp2_with fail
    go_ret
    exact ⟨rfl, Below.refl _ _⟩


/-- A pair of a row of strings and a number. -/
def PairEnd (X : List ByteArray) (x : Int) (w : World) (e : Ending) (w' : World) : Prop := ∃ a' c', e = .returned (.tuple #[.slice a' X.length c', .int .i64 x]) ∧ StrA w' a' c' X ∧ Below w.heap.size w w'
theorem refExt_zero (L : List ByteArray) (a : Option Addr) (c : Nat) (w : World) : Calls Tryd.prog 19 #[.slice a L.length c, .int .i64 0] w (ProofEnd (extS Sha.shaS L 0) 0 w) := by
  have he : ∀ w', Below w.heap.size w w' → ProofEnd (extS Sha.shaS L 0) 0 w (.returned (.tuple #[.slice none 0 0, .int .i64 0])) w' := fun w' h => by
    unfold extS; rw [if_pos rfl]; exact ⟨⟨_, rfl, World.ownsRow_nil _ _ _ _⟩, h⟩
  have HE := Lib.hid he
  clear he
  go_enter Tryd.func19, Tryd.ntmps19
  go_wp2_with fail
  go_ret2
  exact HE.out _ (Below.refl _ _)
theorem proof_both (L : List ByteArray) (i : Int) (hx : ∀ x ∈ L, x.size ≤ 1000) (hL : L.length < 1000000) : ∃ (X : List ByteArray) (x : Int),
    (∀ a c w, Tab w → StrA w a c L → Calls Tryd.prog 16 #[.slice a L.length c, .int .i64 i] w (PairEnd X x w)) ∧
    (∀ a c w, StrA w a c L → Calls Tryd.prog 17 #[.slice a L.length c, .int .i64 i] w (PairEnd X x w)) := by
  by_cases h : 0 ≤ i ∧ i < L.length
  · refine ⟨proofS Sha.shaS L i.toNat, 0, fun a c w ht hA => proof_at L i a c w ht hA hx hL h _ rfl, fun a c w hA => ?_⟩
    have := refProof_yes refSum_is L.length L i.toNat a c w (Nat.le_refl _) hA hx (by omega) hL
    rw [Int.toNat_of_nonneg h.1] at this
    exact this.mono fun _ _ hp => proofEnd_arg hp
  · exact ⟨[], 2, fun a c w _ _ => proof_not L i a c w h, fun a c w _ => (refProof_no L i a c w (by omega)).mono fun _ _ hp => proofEnd_arg hp⟩
theorem ext_both (L : List ByteArray) (m : Int) (hx : ∀ x ∈ L, x.size ≤ 1000) (hL : L.length < 1000000) : ∃ (X : List ByteArray) (x : Int),
    (∀ a c w, Tab w → StrA w a c L → Calls Tryd.prog 18 #[.slice a L.length c, .int .i64 m] w (PairEnd X x w)) ∧
    (∀ a c w, StrA w a c L → Calls Tryd.prog 19 #[.slice a L.length c, .int .i64 m] w (PairEnd X x w)) := by
  by_cases h : 0 ≤ m ∧ m ≤ L.length
  · refine ⟨extS Sha.shaS L m.toNat, 0, fun a c w ht hA => ext_at L m a c w ht hA hx hL h _ rfl, fun a c w hA => ?_⟩
    by_cases h0 : m = 0
    · subst h0
      exact (refExt_zero L a c w).mono fun _ _ hp => proofEnd_arg hp
    · obtain ⟨b, off, rfl, hb⟩ := hA.place (by omega)
      have := refExtension_any refSum_is L m.toNat b off c w hb hA hx (by omega) hL
      rw [Int.toNat_of_nonneg h.1] at this
      exact this.mono fun _ _ hp => proofEnd_arg hp
  · exact ⟨[], 2, fun a c w _ _ => ext_not L m a c w h, fun a c w _ => (refExtension_no L m a c w (by omega)).mono fun _ _ hp => proofEnd_arg hp⟩
theorem same_self (X : List ByteArray) (a b : Option Addr) (c d : Nat) (w : World) (hA : StrA w a c X) (hB : StrA w b d X) :
    Calls Tryd.prog 20 #[.slice a X.length c, .slice b X.length d] w fun e w' => e = .returned (.bool true) ∧ Below w.heap.size w w' := by
  have := same_any a b c d X X w hA hB
  rwa [decide_eq_true rfl] at this

set_option maxRecDepth 100000 in
set_option maxHeartbeats 4000000 in
theorem treeMatches_walk (pa : Option Addr) (pc : Nat) (P : List ByteArray) (i m : Int) (W : World) (ht : Tab W) (hp : StrA W pa pc P) (hpx : ∀ x ∈ P, x.size ≤ maxLen) (_ : -9223372036854775808 ≤ i) (_ : i ≤ 9223372036854775807) (_ : -9223372036854775808 ≤ m) (_ : m ≤ 9223372036854775807) :
    Calls Tryd.prog 4 #[.slice pa P.length pc, .int .i64 i, .int .i64 m] W fun e W' => e = .returned (.bool true) ∧ Below W.heap.size W W' := by
  have H0 := Lib.hid (show OneAt W pa pc P W from ⟨ht, hp, Below.refl _ _⟩)
  have HPX := Lib.hid hpx
  clear ht hp hpx
  have HFP := Lib.hid (few_small P 40)
  have hfp := few_le P 40
  have HFL := Lib.hid (fun w (hA : StrA w pa pc P) => few_list pa pc P 40 w hA (by decide) HPX.out)
  clear HPX
  generalize fewS P 40 = L at *
  have hx : ∀ x ∈ L, x.size ≤ 1000 := fun x hx => Nat.le_trans (HFP.out x hx) (by decide)
  obtain ⟨X, x, hp1, hp2⟩ := proof_both L i hx (by omega)
  obtain ⟨Y, y, he1, he2⟩ := ext_both L m hx (by omega)
  have hr1 := fun a c w (h : Tab w) (hA : StrA w a c L) => root_any L.length L a c w (Nat.le_refl _) h hA hx
  have hr2 := fun a c w (hA : StrA w a c L) => refRoot_any refSum_is L.length L a c w (Nat.le_refl _) hA hx
  unfold StrEnd at hr1 hr2
  generalize rootS Sha.shaS L = r at *
  have e1 : (r.toList == r.toList) = true := beq_self_eq_true _
  have P1 := Lib.hid hp1; have P2 := Lib.hid hp2; have E1 := Lib.hid he1; have E2 := Lib.hid he2; have R1 := Lib.hid hr1; have R2 := Lib.hid hr2
  have HLN := Lib.hid hfp
  clear hp1 hp2 he1 he2 hr1 hr2 hx hfp HFP
  go_enter Tryd.func4, Tryd.ntmps4
  go_wp2_with fail
  refine (sane_any _ H0.out.1).mono ?_
  rintro e W1 ⟨rfl, hb1⟩
  have H1 := Lib.hid (H0.out.step hb1)
  clear hb1 H0
  go_wp2_with fail
  refine (HFL.out _ H1.out.2.1).mono ?_
  rintro e W2 ⟨a2, c2, rfl, hA2, hb2⟩
  have H2 := Lib.hid (show OneAt W a2 c2 L W2 from ⟨H1.out.1.below hb2, hA2, below_step H1.out.2.2 hb2⟩)
  clear hb2 H1 hA2 HFL
  go_wp2_with fail
  refine (P1.out _ _ _ H2.out.1 H2.out.2.1).mono ?_
  rintro e W3 ⟨a3, c3, rfl, hA3, hb3⟩
  have H3 := Lib.hid (H2.out.step hb3)
  have S3 := Lib.hid hA3
  clear hb3 hA3
  go_wp2_with fail
  refine (P2.out _ _ _ H3.out.2.1).mono ?_
  rintro e W4 ⟨a4, c4, rfl, hA4, hb4⟩
  have H4 := Lib.hid (H3.out.step hb4)
  have S3 := Lib.hid (S3.out.below hb4)
  have S4 := Lib.hid hA4
  clear hb4 hA4
  go_wp2_with fail
  refine (E1.out _ _ _ H4.out.1 H4.out.2.1).mono ?_
  rintro e W5 ⟨a5, c5, rfl, hA5, hb5⟩
  have H5 := Lib.hid (H4.out.step hb5)
  have S3 := Lib.hid (S3.out.below hb5); have S4 := Lib.hid (S4.out.below hb5)
  have S5 := Lib.hid hA5
  clear hb5 hA5
  go_wp2_with fail
  refine (E2.out _ _ _ H5.out.2.1).mono ?_
  rintro e W6 ⟨a6, c6, rfl, hA6, hb6⟩
  have H6 := Lib.hid (H5.out.step hb6)
  have S3 := Lib.hid (S3.out.below hb6); have S4 := Lib.hid (S4.out.below hb6); have S5 := Lib.hid (S5.out.below hb6)
  have S6 := Lib.hid hA6
  clear hb6 hA6
  go_wp2_with fail
  refine (same_self X _ _ _ _ _ S3.out S4.out).mono ?_
  rintro e W7 ⟨rfl, hb7⟩
  have H7 := Lib.hid (H6.out.step hb7)
  have S5 := Lib.hid (S5.out.below hb7); have S6 := Lib.hid (S6.out.below hb7)
  clear hb7
  go_wp2_with fail
  refine (same_self Y _ _ _ _ _ S5.out S6.out).mono ?_
  rintro e W8 ⟨rfl, hb8⟩
  have H8 := Lib.hid (H7.out.step hb8)
  clear hb8
  go_wp2_with fail
  refine (R1.out _ _ _ H8.out.1 H8.out.2.1).mono ?_
  rintro e W9 ⟨rfl, hb9⟩
  have H9 := Lib.hid (H8.out.step hb9)
  clear hb9
  go_wp2_with fail
  refine (R2.out _ _ _ H9.out.2.1).mono ?_
  rintro e W10 ⟨rfl, hb10⟩
  have H10 := Lib.hid (H9.out.step hb10)
  clear hb10
  go_wp2_with fail
  go_ret
  exact ⟨rfl, H10.out.2.2⟩
end Go.Proofs.YtbaggjhjkignkaaDoor
