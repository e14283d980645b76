/-
  The walk of DigestExtensionAccepted: it returns true for all arguments. Condition: the table of 64 words reads as the program's text lays it.
-/
import Derived.Test.YtbaggjhjkignkaaDoorBind
namespace Go.Proofs.YtbaggjhjkignkaaDoor
open Go.RowKit Go.Shelf Tree

/-- What a walk with one list keeps. -/
def OneAt (w : World) (a : Option Addr) (c : Nat) (L : List ByteArray) (V : World) : Prop := Tab V ∧ StrA V a c L ∧ Below w.heap.size w V
theorem OneAt.step {w V V' : World} {a : Option Addr} {c : Nat} {L : List ByteArray} (h : OneAt w a c L V) (hb : Below V.heap.size V V') : OneAt w a c L V' :=
  ⟨h.1.below hb, h.2.1.below hb, below_step h.2.2 hb⟩

/-- Extension at all numbers. -/
theorem ext_all (L : List ByteArray) (m : Int) (a : Option Addr) (c : Nat) (w : World) (ht : Tab w) (hA : StrA w a c L) (hx : ∀ x ∈ L, x.size ≤ 1000) (hL : L.length < 1000000) :
    Calls Tryd.prog 18 #[.slice a L.length c, .int .i64 m] w (ProofEnd (if 0 ≤ m ∧ m ≤ L.length then extS Sha.shaS L m.toNat else []) (if 0 ≤ m ∧ m ≤ L.length then 0 else 2) w) := by
  by_cases h : 0 ≤ m ∧ m ≤ L.length
  · rw [if_pos h, if_pos h]
    by_cases h0 : m = 0
    · subst h0
      exact ext_zero L a c w
    · obtain ⟨b, off, rfl, _⟩ := hA.place (by omega)
      have := ext_yes L m.toNat b off c w ht hA hx (by omega) (by omega) hL
      rw [show ((m.toNat : Nat) : Int) = m by omega] at this
      exact this
  · rw [if_neg h, if_neg h]
    exact ext_no L m a c w (by omega)
/-- Proof at all numbers. -/
theorem proof_all (L : List ByteArray) (i : Int) (a : Option Addr) (c : Nat) (w : World) (ht : Tab w) (hA : StrA w a c L) (hx : ∀ x ∈ L, x.size ≤ 1000) (hL : L.length < 1000000) :
    Calls Tryd.prog 16 #[.slice a L.length c, .int .i64 i] w (ProofEnd (if 0 ≤ i ∧ i < L.length then proofS Sha.shaS L i.toNat else []) (if 0 ≤ i ∧ i < L.length then 0 else 2) w) := by
  by_cases h : 0 ≤ i ∧ i < L.length
  · rw [if_pos h, if_pos h]
    obtain ⟨b, off, rfl, _⟩ := hA.place (by omega)
    have := proof_yes L i.toNat b off c w ht hA hx (by omega) hL
    rw [show ((i.toNat : Nat) : Int) = i by omega] at this
    exact this
  · rw [if_neg h, if_neg h]
    exact proof_no L i a c w (by omega)

theorem digs_two {x y : ByteArray} (h1 : x.size = 32) (h2 : y.size = 32) : digsB [x, y] = true := digsB_true.2 (fun z hz => by
  rcases List.mem_cons.1 hz with rfl | hz
  · exact h1
  · rw [List.mem_singleton] at hz; subst hz; exact h2)
theorem ext_sizes (L : List ByteArray) (k : Nat) : ∀ x ∈ extS Sha.shaS L k, x.size = 32 := fun x hx => by
  unfold extS at hx
  by_cases h : k = 0
  · rw [if_pos h] at hx; cases hx
  · rw [if_neg h] at hx
    exact part_sizes Sha.shaS Sha.shaS_size L.length L k true (Nat.le_refl _) x hx
/-- The extension of a beginning is accepted, and is short. -/
theorem ext_accepted (L : List ByteArray) (k : Nat) (hk : k ≤ L.length) : vexAll (rootS Sha.shaS (L.take k)) k (rootS Sha.shaS L) L.length (extS Sha.shaS L k) = true ∧ (extS Sha.shaS L k).length ≤ 2 * binS L.length := by
  have hr := rootS_size Sha.shaS Sha.shaS_size
  constructor
  · unfold vexAll
    rw [decide_eq_true (by omega), digs_two (hr _) (hr _), digsB_true.2 (ext_sizes L k), Bool.and_self, Bool.true_and, Bool.true_and]
    by_cases h : k = 0
    · subst h
      rw [if_pos (by simp), List.take_zero, rootS_nil]
      unfold extS
      simp
    · rw [if_neg (by omega)]
      unfold vexB extS
      rw [if_neg h, Int.toNat_natCast, Int.toNat_natCast, part_both Sha.shaS (rootS Sha.shaS (L.take k)) L.length L k true (Nat.le_refl _) (by omega) hk (fun _ => rfl)]
      simp
  · unfold extS
    by_cases h : k = 0
    · rw [if_pos h]; simp
    · rw [if_neg h]
      have h1 := part_len Sha.shaS (binS L.length) L k true (Nat.le_of_lt (lt_binS _ L.length (Nat.le_refl _)))
      have h2 : binS L.length ≠ 0 := fun e => by
        have := lt_binS _ L.length (Nat.le_refl _)
        rw [e, Nat.pow_zero] at this
        omega
      omega

/-- Extension at a number that the list has. -/
theorem ext_at (L : List ByteArray) (m : Int) (a : Option Addr) (c : Nat) (w : World) (ht : Tab w) (hA : StrA w a c L) (hx : ∀ x ∈ L, x.size ≤ 1000) (hL : L.length < 1000000) (h : 0 ≤ m ∧ m ≤ L.length) (X : List ByteArray) (hX : extS Sha.shaS L m.toNat = X) :
    Calls Tryd.prog 18 #[.slice a L.length c, .int .i64 m] w fun e w' => ∃ a' c', e = .returned (.tuple #[.slice a' X.length c', .int .i64 0]) ∧ StrA w' a' c' X ∧ Below w.heap.size w w' := by
  have := ext_all L m a c w ht hA hx hL
  rw [if_pos h, if_pos h, hX] at this
  exact this.mono fun _ _ hp => proofEnd_arg hp
theorem ext_not (L : List ByteArray) (m : Int) (a : Option Addr) (c : Nat) (w : World) (h : ¬ (0 ≤ m ∧ m ≤ L.length)) :
    Calls Tryd.prog 18 #[.slice a L.length c, .int .i64 m] w fun e w' => ∃ a' c', e = .returned (.tuple #[.slice a' 0 c', .int .i64 2]) ∧ StrA w' a' c' [] ∧ Below w.heap.size w w' := by
  exact (ext_no L m a c w (by omega)).mono fun _ _ hp => proofEnd_arg hp

end Go.Proofs.YtbaggjhjkignkaaDoor

