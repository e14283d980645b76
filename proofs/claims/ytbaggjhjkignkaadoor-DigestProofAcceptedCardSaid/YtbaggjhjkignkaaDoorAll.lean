/-
  The package's functions under all arguments that the statements hand them; and what the walks of layer 2 carry.
-/
import Derived.Test.YtbaggjhjkignkaaDoorSane
import Derived.Test.YtbaggjhjkignkaaDoorWay
import Derived.Test.YtbaggjhjkignkaaDoorSides
import Derived.Test.YtbaggjhjkignkaaDoorCollide
namespace Go.Proofs.YtbaggjhjkignkaaDoor
open Go.RowKit Go.Shelf Tree

/-- The package's digests, as the walks ask for them. -/
theorem dig : Digests Sha.shaS Tab where
  below := fun h hb => h.below hb
  size := Sha.shaS_size
  sum := fun s w ht hs => sum_any s w ht hs
  leaf := fun s w ht hs => leaf_any s w ht hs
  node := fun a b w ht ha hb => node_any a b w ht ha hb
  chain := fun a b w ht ha hb => chain_any a b w ht ha hb

/-- What Verify answers to all arguments. -/
def verAll (root : ByteArray) (n i : Int) (s : ByteArray) (P : List ByteArray) : Bool := decide (0 ≤ i ∧ i < n) && (digsB P && verB root n.toNat i.toNat s P)
theorem verAll_true {root s : ByteArray} {n i : Int} {P : List ByteArray} (h : verAll root n i s P = true) : ∃ n' i' : Nat, n = n' ∧ i = i' ∧ i' < n' ∧ (∀ x ∈ P, x.size = 32) ∧ valueR Sha.shaS s n' i' P.reverse = some root := by
  unfold verAll at h
  rw [Bool.and_eq_true, Bool.and_eq_true, decide_eq_true_iff] at h
  obtain ⟨⟨h1, h2⟩, h3, h4⟩ := h
  exact ⟨n.toNat, i.toNat, by omega, by omega, by omega, digsB_true.1 h3, by simpa [verB] using h4⟩
theorem verify_all (root s : ByteArray) (n i : Int) (P : List ByteArray) (a : Option Addr) (c : Nat) (w : World) (ht : Tab w) (hA : StrA w a c P) (hP : P.length < 1000) (hs : s.size ≤ 1000) (hn : n < 9223372036854775808) :
    Calls Tryd.prog 24 #[.string root, .int .i64 n, .int .i64 i, .string s, .slice a P.length c] w (BoolEnd (verAll root n i s P) w) := by
  unfold verAll
  by_cases h1 : 0 ≤ i ∧ i < n
  · rw [decide_eq_true h1, Bool.true_and]
    cases hd : digsB P with
    | false => exact verify_no root s n i P a c w hA (.inr (.inr hd))
    | true =>
      have := verify_yes root s n.toNat i.toNat P a c w ht hA hP hd hs (by omega) (by omega)
      rw [show ((n.toNat : Nat) : Int) = n by omega, show ((i.toNat : Nat) : Int) = i by omega] at this
      exact this
  · rw [decide_eq_false h1, Bool.false_and]
    exact verify_no root s n i P a c w hA (by omega)

/-- What VerifyExtension answers to all arguments. -/
def vexAll (old : ByteArray) (m : Int) (root : ByteArray) (n : Int) (P : List ByteArray) : Bool :=
  decide (0 ≤ m ∧ m ≤ n) && ((digsB [old, root] && digsB P) && (if m = 0 then decide (P.length = 0) && decide (old = Sha.shaS ⟨#[]⟩) else vexB old m.toNat root n.toNat P))
theorem vext_all (old root : ByteArray) (m n : Int) (P : List ByteArray) (a : Option Addr) (c : Nat) (w : World) (ht : Tab w) (hA : StrA w a c P) (hP : P.length < 1000) (hn : n < 9223372036854775808) :
    Calls Tryd.prog 26 #[.string old, .int .i64 m, .string root, .int .i64 n, .slice a P.length c] w (BoolEnd (vexAll old m root n P) w) := by
  unfold vexAll
  by_cases h1 : 0 ≤ m ∧ m ≤ n
  · rw [decide_eq_true h1, Bool.true_and]
    cases hdo : digsB [old, root] with
    | false => exact vext_no old root m n P a c w hA (.inr (.inr (.inl hdo)))
    | true =>
      cases hd : digsB P with
      | false => exact vext_no old root m n P a c w hA (.inr (.inr (.inr hd)))
      | true =>
        rw [Bool.and_self, Bool.true_and]
        by_cases hm : m = 0
        · subst hm
          rw [if_pos rfl]
          have := vext_zero old root n.toNat P a c w ht hA hdo hd
          rw [show ((n.toNat : Nat) : Int) = n by omega] at this
          exact this
        · rw [if_neg hm]
          have := vext_yes old root n.toNat m.toNat P a c w ht hA hP hdo hd (by omega) (by omega) (by omega)
          rw [show ((n.toNat : Nat) : Int) = n by omega, show ((m.toNat : Nat) : Int) = m by omega] at this
          exact this
  · rw [decide_eq_false h1, Bool.false_and]
    exact vext_no old root m n P a c w hA (by omega)
theorem vexAll_true {old root : ByteArray} {m n : Int} {P : List ByteArray} (h : vexAll old m root n P = true) :
    0 ≤ m ∧ m ≤ n ∧ old.size = 32 ∧ (∀ x ∈ P, x.size = 32) ∧ ((m = 0 ∧ P.length = 0 ∧ old = Sha.shaS ⟨#[]⟩) ∨ (m ≠ 0 ∧ bothR Sha.shaS old m.toNat n.toNat true P.reverse = some (old, root))) := by
  unfold vexAll at h
  rw [Bool.and_eq_true, Bool.and_eq_true, Bool.and_eq_true, decide_eq_true_iff] at h
  obtain ⟨⟨h1, h2⟩, ⟨h3, h4⟩, h5⟩ := h
  refine ⟨h1, h2, digsB_true.1 h3 old (by simp), digsB_true.1 h4, ?_⟩
  by_cases hm : m = 0
  · rw [if_pos hm, Bool.and_eq_true, decide_eq_true_iff, decide_eq_true_iff] at h5
    exact .inl ⟨hm, h5.1, h5.2⟩
  · rw [if_neg hm] at h5
    exact .inr ⟨hm, by simpa [vexB] using h5⟩

/-- few at a list of the caller's. -/
theorem few_list (a : Option Addr) (c : Nat) (L : List ByteArray) (n : Nat) (w : World) (hA : StrA w a c L) (hn : n ≤ 100) (hs : ∀ x ∈ L, x.size ≤ maxLen) :
    Calls Tryd.prog 15 #[.slice a L.length c, .int .i64 n] w fun e w' => ∃ a' c', e = .returned (.slice a' (fewS L n).length c') ∧ StrA w' a' c' (fewS L n) ∧ Below w.heap.size w w' := by
  refine Calls.mono (few_any a c L n w hA hn hs) ?_
  rintro e w' ⟨⟨v, rfl, ho⟩, hb⟩
  obtain ⟨a', c', rfl, hA'⟩ := ho.arg
  exact ⟨a', c', rfl, hA', hb⟩
theorem few_small (L : List ByteArray) (n : Nat) : ∀ x ∈ fewS L n, x.size ≤ 60 := fun x hx => by
  unfold fewS at hx
  obtain ⟨y, _, rfl⟩ := List.mem_map.1 hx
  exact cut60_le y
end Go.Proofs.YtbaggjhjkignkaaDoor

