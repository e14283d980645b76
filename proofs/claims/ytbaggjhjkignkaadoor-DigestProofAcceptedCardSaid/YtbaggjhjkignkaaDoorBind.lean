/-
  The walk of DigestBinding: it returns true for all arguments. Condition: the table of 64 words reads as the program's text lays it.
-/
import Derived.Test.YtbaggjhjkignkaaDoorAll
namespace Go.Proofs.YtbaggjhjkignkaaDoor
open Go.RowKit Go.Shelf Tree

/-- What a walk with two lists keeps. -/
def TwoAt (w : World) (a : Option Addr) (c : Nat) (P : List ByteArray) (b : Option Addr) (d : Nat) (Q : List ByteArray) (V : World) : Prop := Tab V ∧ StrA V a c P ∧ StrA V b d Q ∧ Below w.heap.size w V
theorem TwoAt.step {w V V' : World} {a b : Option Addr} {c d : Nat} {P Q : List ByteArray} (h : TwoAt w a c P b d Q V) (hb : Below V.heap.size V V') : TwoAt w a c P b d Q V' :=
  ⟨h.1.below hb, h.2.1.below hb, h.2.2.1.below hb, below_step h.2.2.2 hb⟩
theorem two_start {W : World} (ht : Tab W) {pa qa : Option Addr} {pc qc : Nat} {P Q : List ByteArray} (hp : StrA W pa pc P) (hq : StrA W qa qc Q) : TwoAt W pa pc P qa qc Q W := ⟨ht, hp, hq, Below.refl _ _⟩

theorem wayR_bd (s : ByteArray) (hs : s.size ≤ 100) : ∀ (r : List ByteArray) (n i : Nat), (∀ x ∈ r, x.size = 32) → ∀ x ∈ (wayR Sha.shaS s n i r).1, x.size ≤ 1000
  | [], n, i, _, x, hx => by
    unfold wayR at hx
    rw [List.mem_singleton] at hx
    subst hx
    rw [ByteArray.size_append]
    show 1 + s.size ≤ 1000
    omega
  | y :: r, n, i, hr, x, hx => by
    have ih := fun n i => wayR_bd s hs r n i (fun z hz => hr z (List.mem_cons_of_mem _ hz))
    have hy : y.size = 32 := hr y (List.mem_cons_self ..)
    have hv := fun n i => wayR_size Sha.shaS_size s r n i
    unfold wayR at hx
    by_cases h : n ≤ 1
    · rw [if_pos h, List.mem_singleton] at hx
      subst hx
      rw [ByteArray.size_append]
      show 1 + s.size ≤ 1000
      omega
    · by_cases hi : i < leftN n
      · rw [if_neg h, if_pos hi] at hx
        rcases List.mem_cons.1 hx with rfl | hx
        · rw [ByteArray.size_append, ByteArray.size_append, hv, hy]; decide
        · exact ih _ _ x hx
      · rw [if_neg h, if_neg hi] at hx
        rcases List.mem_cons.1 hx with rfl | hx
        · rw [ByteArray.size_append, ByteArray.size_append, hv, hy]; decide
        · exact ih _ _ x hx

end Go.Proofs.YtbaggjhjkignkaaDoor

