/-
  The walk of DigestExtensionAccepted: it returns true for all arguments. Condition: the table of 64 words reads as the program's text lays it.
-/
import Derived.Test.YtmmhilonmbnenaaDoorBind
namespace Go.Proofs.YtmmhilonmbnenaaDoor
open Go.RowKit Go.Shelf Tree

/-- What a walk with one list keeps. -/
def OneAt (w : World) (a : Option Addr) (c : Nat) (L : List ByteArray) (V : World) : Prop := Tab V ∧ StrA V a c L ∧ Below w.heap.size w V
theorem OneAt.step {w V V' : World} {a : Option Addr} {c : Nat} {L : List ByteArray} (h : OneAt w a c L V) (hb : Below V.heap.size V V') : OneAt w a c L V' :=
  ⟨h.1.below hb, h.2.1.below hb, below_step h.2.2 hb⟩

/-- Extension at all numbers. -/
theorem ext_all (L : List ByteArray) (m : Int) (a : Option Addr) (c : Nat) (w : World) (ht : Tab w) (hA : StrA w a c L) (hx : ∀ x ∈ L, x.size ≤ 1000) (hL : L.length < 1000000) :
    Calls Tryd.prog 23 #[.slice a L.length c, .int .i64 m] w (ProofEnd (if 0 ≤ m ∧ m ≤ L.length then extS Sha.shaS L m.toNat else []) (if 0 ≤ m ∧ m ≤ L.length then 0 else 2) w) := by
  by_cases h : 0 ≤ m ∧ m ≤ L.length
  · rw [if_pos h, if_pos h]
    by_cases h0 : m = 0
    · subst h0
      exact ext_zero L a c w
    · obtain ⟨b, off, rfl, _⟩ := hA.place (by omega)
      have := ext_yes L m.toNat b off c w ht hA hx (by omega) (by omega) hL
      rw [show ((m.toNat : Nat) : Int) = m by omega] at this
      exact this
  · rw [if_neg h, if_neg h]
    exact ext_no L m a c w (by omega)
/-- Proof at all numbers. -/
theorem proof_all (L : List ByteArray) (i : Int) (a : Option Addr) (c : Nat) (w : World) (ht : Tab w) (hA : StrA w a c L) (hx : ∀ x ∈ L, x.size ≤ 1000) (hL : L.length < 1000000) :
    Calls Tryd.prog 21 #[.slice a L.length c, .int .i64 i] w (ProofEnd (if 0 ≤ i ∧ i < L.length then proofS Sha.shaS L i.toNat else []) (if 0 ≤ i ∧ i < L.length then 0 else 2) w) := by
  by_cases h : 0 ≤ i ∧ i < L.length
  · rw [if_pos h, if_pos h]
    obtain ⟨b, off, rfl, _⟩ := hA.place (by omega)
    have := proof_yes L i.toNat b off c w ht hA hx (by omega) hL
    rw [show ((i.toNat : Nat) : Int) = i by omega] at this
    exact this
  · rw [if_neg h, if_neg h]
    exact proof_no L i a c w (by omega)

theorem digs_two {x y : ByteArray} (h1 : x.size = 32) (h2 : y.size = 32) : digsB [x, y] = true := digsB_true.2 (fun z hz => by
  rcases List.mem_cons.1 hz with rfl | hz
  · exact h1
  · rw [List.mem_singleton] at hz; subst hz; exact h2)
theorem ext_sizes (L : List ByteArray) (k : Nat) : ∀ x ∈ extS Sha.shaS L k, x.size = 32 := fun x hx => by
  unfold extS at hx
  by_cases h : k = 0
  · rw [if_pos h] at hx; cases hx
  · rw [if_neg h] at hx
    exact part_sizes Sha.shaS Sha.shaS_size L.length L k true (Nat.le_refl _) x hx
/-- The extension of a beginning is accepted, and is short. -/
theorem ext_accepted (L : List ByteArray) (k : Nat) (hk : k ≤ L.length) : vexAll (rootS Sha.shaS (L.take k)) k (rootS Sha.shaS L) L.length (extS Sha.shaS L k) = true ∧ (extS Sha.shaS L k).length ≤ 2 * binS L.length := by
  have hr := rootS_size Sha.shaS Sha.shaS_size
  constructor
  · unfold vexAll
    rw [decide_eq_true (by omega), digs_two (hr _) (hr _), digsB_true.2 (ext_sizes L k), Bool.and_self, Bool.true_and, Bool.true_and]
    by_cases h : k = 0
    · subst h
      rw [if_pos (by simp), List.take_zero, rootS_nil]
      unfold extS
      simp
    · rw [if_neg (by omega)]
      unfold vexB extS
      rw [if_neg h, Int.toNat_natCast, Int.toNat_natCast, part_both Sha.shaS (rootS Sha.shaS (L.take k)) L.length L k true (Nat.le_refl _) (by omega) hk (fun _ => rfl)]
      simp
  · unfold extS
    by_cases h : k = 0
    · rw [if_pos h]; simp
    · rw [if_neg h]
      have h1 := part_len Sha.shaS (binS L.length) L k true (Nat.le_of_lt (lt_binS _ L.length (Nat.le_refl _)))
      have h2 : binS L.length ≠ 0 := fun e => by
        have := lt_binS _ L.length (Nat.le_refl _)
        rw [e, Nat.pow_zero] at this
        omega
      omega

/-- Extension at a number that the list has. -/
theorem ext_at (L : List ByteArray) (m : Int) (a : Option Addr) (c : Nat) (w : World) (ht : Tab w) (hA : StrA w a c L) (hx : ∀ x ∈ L, x.size ≤ 1000) (hL : L.length < 1000000) (h : 0 ≤ m ∧ m ≤ L.length) (X : List ByteArray) (hX : extS Sha.shaS L m.toNat = X) :
    Calls Tryd.prog 23 #[.slice a L.length c, .int .i64 m] w fun e w' => ∃ a' c', e = .returned (.tuple #[.slice a' X.length c', .int .i64 0]) ∧ StrA w' a' c' X ∧ Below w.heap.size w w' := by
  have := ext_all L m a c w ht hA hx hL
  rw [if_pos h, if_pos h, hX] at this
  exact this.mono fun _ _ hp => proofEnd_arg hp
theorem ext_not (L : List ByteArray) (m : Int) (a : Option Addr) (c : Nat) (w : World) (h : ¬ (0 ≤ m ∧ m ≤ L.length)) :
    Calls Tryd.prog 23 #[.slice a L.length c, .int .i64 m] w fun e w' => ∃ a' c', e = .returned (.tuple #[.slice a' 0 c', .int .i64 2]) ∧ StrA w' a' c' [] ∧ Below w.heap.size w w' := by
  exact (ext_no L m a c w (by omega)).mono fun _ _ hp => proofEnd_arg hp

set_option maxRecDepth 100000 in
set_option maxHeartbeats 1000000 in
theorem extAcc_walk (pa : Option Addr) (pc : Nat) (P : List ByteArray) (m : Int) (W : World) (ht : Tab W) (hp : StrA W pa pc P) (hpx : ∀ x ∈ P, x.size ≤ maxLen) (hm1 : -9223372036854775808 ≤ m) (hm2 : m ≤ 9223372036854775807) :
    Calls Tryd.prog 6 #[.slice pa P.length pc, .int .i64 m] W fun e w' => e = .returned (.bool true) ∧ Below W.heap.size W w' := by
  have H0 := Lib.hid (show OneAt W pa pc P W from ⟨ht, hp, Below.refl _ _⟩)
  have HPX := Lib.hid hpx
  clear ht hp hpx
  go_enter Tryd.func6, Tryd.ntmps6
  go_wp2_with fail
  refine (sane_any _ H0.out.1).mono ?_
  rintro e W1 ⟨rfl, hb1⟩
  have H1 := Lib.hid (H0.out.step hb1)
  clear hb1 H0
  go_wp2_with fail
  refine (few_list pa pc P 25 _ H1.out.2.1 (by decide) HPX.out).mono ?_
  rintro e W2 ⟨a2, c2, rfl, hA2, hb2⟩
  have H2 := Lib.hid (show OneAt W a2 c2 (fewS P 25) W2 from ⟨H1.out.1.below hb2, hA2, below_step H1.out.2.2 hb2⟩)
  clear hb2 H1 hA2
  have hfp := few_le P 25
  have HFP := Lib.hid (few_small P 25)
  clear HPX
  generalize fewS P 25 = L at *
  have HX := Lib.hid (show ∀ x ∈ L, x.size ≤ 1000 from fun x hx => Nat.le_trans (HFP.out x hx) (by decide))
  have hlc := H2.out.2.1.1
  have hcm := H2.out.2.1.2.1
  unfold maxLen at hcm
  go_wp2_with fail
  refine (root_any L.length L a2 c2 _ (Nat.le_refl _) H2.out.1 H2.out.2.1 HX.out).mono ?_
  rintro e W3 ⟨rfl, hb3⟩
  have H3 := Lib.hid (H2.out.step hb3)
  clear hb3 H2
  go_wp2_with fail
  go_loopw [7] (fun k wr => ∃ j : Nat, k = .int .i64 j ∧ j ≤ L.length + 1 ∧ OneAt W a2 c2 L wr) (fun k _ => L.length + 1 - (intOf k).toNat)
  case atStart => exact ⟨0, rfl, by omega, H3.out⟩
  case round =>
    clear H3
    obtain ⟨k, rfl, hk, hone⟩ := hrel
    have H4 := Lib.hid hone
    clear hone
    by_cases hkl : k ≤ L.length
    · have hki : (k : Int) ≤ (L.length : Int) := by omega
      have hkc : (k : Int) ≤ (c2 : Int) := by omega
      obtain ⟨hacc, hlen⟩ := ext_accepted L k hkl
      have hB := binS_le 5 L.length (by omega)
      have hes := ext_at L k a2 c2 wr H4.out.1 H4.out.2.1 HX.out (by omega) (by omega) (extS Sha.shaS L k) (by simp)
      have hbin := binary_any L.length
      have hX1 : (extS Sha.shaS L k).length < 1000 := by omega
      have hrk := fun V (h : OneAt W a2 c2 L V) => root_any L.length (L.take k) a2 c2 V (by rw [List.length_take]; omega) h.1 (h.2.1.take k) (fun x hx => HX.out x (List.mem_of_mem_take hx))
      rw [show (L.take k).length = k by rw [List.length_take]; omega] at hrk
      have hvx := fun V a' c' (h : Tab V) (hS : StrA V a' c' (extS Sha.shaS L k)) => vext_all (rootS Sha.shaS (L.take k)) (rootS Sha.shaS L) k L.length (extS Sha.shaS L k) a' c' V h hS hX1 (by omega)
      rw [hacc] at hvx
      generalize rootS Sha.shaS (L.take k) = r1 at *
      generalize rootS Sha.shaS L = r2 at *
      generalize extS Sha.shaS L k = X at *
      generalize binS L.length = B at *
      have HE := Lib.hid hes
      have HBI := Lib.hid (fun V => hbin V (by omega))
      have HRK := Lib.hid hrk
      have HVX := Lib.hid hvx
      have hlt : decide (2 * (B : Int) < (X.length : Int)) = false := by simp; omega
      clear hes hbin hrk hvx hacc
      go_wp2_with fail
      refine HE.out.mono ?_
      rintro e V5 ⟨a5, c5, rfl, hA5, hb5⟩
      have H5 := Lib.hid (And.intro (H4.out.step hb5) hA5)
      clear hb5 hA5 H4 HE
      go_wp2_with fail
      refine (HBI.out _).mono ?_
      rintro e V6 ⟨rfl, rfl⟩
      go_wp2_with fail
      refine (HRK.out _ H5.out.1).mono ?_
      rintro e V7 ⟨rfl, hb7⟩
      have H7 := Lib.hid (And.intro (H5.out.1.step hb7) (H5.out.2.below hb7))
      clear hb7 H5
      go_wp2_with fail
      refine (HVX.out _ _ _ H7.out.1.1 H7.out.2).mono ?_
      rintro e V8 ⟨rfl, hb8⟩
      have H8 := Lib.hid (H7.out.1.step hb8)
      clear hb8 H7
      go_wp2_with fail
      go_roundw
      case rel => exact ⟨k + 1, by go_num, by omega, H8.out⟩
      case measure => simp [intOf]; omega
    · have hki : ¬ ((k : Int) ≤ (L.length : Int)) := by omega
      by_cases hin : 0 ≤ m ∧ m ≤ L.length
      · have HE := Lib.hid (ext_at L m a2 c2 wr H4.out.1 H4.out.2.1 HX.out (by omega) hin _ rfl)
        generalize extS Sha.shaS L m.toNat = X at *
        obtain ⟨hi1, hi2⟩ := hin
        go_wp2_with fail
        refine HE.out.mono ?_
        rintro e V5 ⟨a5, c5, rfl, hA5, hb5⟩
        have H5 := Lib.hid (H4.out.step hb5)
        clear hb5 hA5 H4 HE
        go_wp2_with fail
        go_ret
        exact ⟨rfl, H5.out.2.2⟩
      · have HE := Lib.hid (ext_not L m a2 c2 wr hin)
        have HV := Lib.hid (fun V a' c' (h : Tab V) (hS : StrA V a' c' []) => vext_all (rootS Sha.shaS L) (rootS Sha.shaS L) m L.length [] a' c' V h hS (by decide) (by omega))
        have hvf : vexAll (rootS Sha.shaS L) m (rootS Sha.shaS L) L.length [] = false := by
          unfold vexAll
          rw [decide_eq_false hin, Bool.false_and]
        rw [hvf] at HV
        generalize rootS Sha.shaS L = r2 at *
        clear hvf
        by_cases hi1 : 0 ≤ m
        · have hi3 : decide (m ≤ (L.length : Int)) = false := decide_eq_false (fun h => hin ⟨hi1, h⟩)
          clear hin
          go_wp2_with fail
          refine HE.out.mono ?_
          rintro e V5 ⟨a5, c5, rfl, hA5, hb5⟩
          have H5 := Lib.hid (And.intro (H4.out.step hb5) hA5)
          clear hb5 hA5 H4 HE
          go_wp2_with fail
          refine (HV.out _ _ _ H5.out.1.1 H5.out.2).mono ?_
          rintro e V8 ⟨rfl, hb8⟩
          have H8 := Lib.hid (H5.out.1.step hb8)
          clear hb8 H5
          go_wp2_with fail
          go_ret
          exact ⟨rfl, H8.out.2.2⟩
        · clear hin
          go_wp2_with fail
          refine HE.out.mono ?_
          rintro e V5 ⟨a5, c5, rfl, hA5, hb5⟩
          have H5 := Lib.hid (And.intro (H4.out.step hb5) hA5)
          clear hb5 hA5 H4 HE
          go_wp2_with fail
          refine (HV.out _ _ _ H5.out.1.1 H5.out.2).mono ?_
          rintro e V8 ⟨rfl, hb8⟩
          have H8 := Lib.hid (H5.out.1.step hb8)
          clear hb8 H5
          go_wp2_with fail
          go_ret
          exact ⟨rfl, H8.out.2.2⟩
end Go.Proofs.YtmmhilonmbnenaaDoor
