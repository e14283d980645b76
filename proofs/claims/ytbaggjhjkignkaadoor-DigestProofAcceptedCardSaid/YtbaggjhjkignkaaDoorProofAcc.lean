/-
  What the walk of DigestProofAccepted needs: every proof is accepted and short, one of another length is refused; Proof at all places.
-/
import Derived.Test.YtbaggjhjkignkaaDoorSplitW
namespace Go.Proofs.YtbaggjhjkignkaaDoor
open Go.RowKit Go.Shelf Tree

/-- The proof of an entry is accepted, and is short. -/
theorem proof_accepted (L : List ByteArray) (k : Nat) (hk : k < L.length) : verAll (rootS Sha.shaS L) L.length k L[k] (proofS Sha.shaS L k) = true ∧ (proofS Sha.shaS L k).length ≤ binS L.length := by
  constructor
  · unfold verAll
    rw [decide_eq_true (by omega), Bool.true_and, digsB_true.2 (proof_sizes Sha.shaS Sha.shaS_size L.length L k (Nat.le_refl _)), Bool.true_and]
    unfold verB
    rw [Int.toNat_natCast, Int.toNat_natCast, proof_value Sha.shaS L[k] L.length L k (Nat.le_refl _) (List.getElem?_eq_getElem hk)]
    simp
  · exact proof_len Sha.shaS (binS L.length) L k (Nat.le_of_lt (lt_binS _ L.length (Nat.le_refl _)))
/-- A proof of another length is refused. -/
theorem other_length (L : List ByteArray) (k : Nat) (hk : k < L.length) (s : ByteArray) (Q : List ByteArray) (hQ : Q.length ≠ (proofS Sha.shaS L k).length) : verAll (rootS Sha.shaS L) L.length k s Q = false := by
  cases h : verAll (rootS Sha.shaS L) L.length k s Q with
  | false => rfl
  | true =>
    exfalso
    obtain ⟨n', i', en, ei, _, _, hv⟩ := verAll_true h
    obtain rfl : n' = L.length := by omega
    obtain rfl : i' = k := by omega
    have h1 := valueR_depth Sha.shaS s Q.reverse L.length i'
    rw [hv] at h1
    have h2 := valueR_depth Sha.shaS L[i'] (proofS Sha.shaS L i').reverse L.length i'
    rw [proof_value Sha.shaS L[i'] L.length L i' (Nat.le_refl _) (List.getElem?_eq_getElem hk)] at h2
    have := depth_len _ _ _ _ h1.symm h2.symm
    rw [List.length_reverse, List.length_reverse] at this
    exact hQ this

/-- Proof at a place that the list has. -/
theorem proof_at (L : List ByteArray) (i : Int) (a : Option Addr) (c : Nat) (w : World) (ht : Tab w) (hA : StrA w a c L) (hx : ∀ x ∈ L, x.size ≤ 1000) (hL : L.length < 1000000) (h : 0 ≤ i ∧ i < L.length) (X : List ByteArray) (hX : proofS Sha.shaS L i.toNat = X) :
    Calls Tryd.prog 16 #[.slice a L.length c, .int .i64 i] w fun e w' => ∃ a' c', e = .returned (.tuple #[.slice a' X.length c', .int .i64 0]) ∧ StrA w' a' c' X ∧ Below w.heap.size w w' := by
  have := proof_all L i a c w ht hA hx hL
  rw [if_pos h, if_pos h, hX] at this
  exact this.mono fun _ _ hp => proofEnd_arg hp
theorem proof_not (L : List ByteArray) (i : Int) (a : Option Addr) (c : Nat) (w : World) (h : ¬ (0 ≤ i ∧ i < L.length)) :
    Calls Tryd.prog 16 #[.slice a L.length c, .int .i64 i] w fun e w' => ∃ a' c', e = .returned (.tuple #[.slice a' 0 c', .int .i64 2]) ∧ StrA w' a' c' [] ∧ Below w.heap.size w w' := by
  exact (proof_no L i a c w (by omega)).mono fun _ _ hp => proofEnd_arg hp
end Go.Proofs.YtbaggjhjkignkaaDoor

