/-
  The string of a sequence of integers and strings, one behind the other; and slices of integers and of strings as facts about cells.
-/
import Derived.Test.YtfiigjkcmnlddaaDoorRoundTrip
import Derived.Test.YtfiigjkcmnlddaaDoorRow
namespace Go.Proofs.YtfiigjkcmnlddaaDoor
open Go.RowKit

/-- A slice of integers whose elements are read. -/
def IntsAt (w : World) (a : Option Addr) (n : Nat) (z : Nat → Int) : Prop :=
  ∀ i, i < n → ∃ b off : Nat, a = some ⟨b, off, none⟩ ∧ b < w.heap.size ∧ w.cell? ⟨b, off + i, none⟩ = some (.int .i64 (z i)) ∧ -9223372036854775808 ≤ z i ∧ z i ≤ 9223372036854775807
/-- A slice of strings whose elements are read. -/
def StrsAt (w : World) (a : Option Addr) (n : Nat) (y : Nat → ByteArray) : Prop :=
  ∀ i, i < n → ∃ b off : Nat, a = some ⟨b, off, none⟩ ∧ b < w.heap.size ∧ w.cell? ⟨b, off + i, none⟩ = some (.string (y i)) ∧ (y i).size ≤ maxLen
theorem IntsAt.below {w w' : World} {a : Option Addr} {n : Nat} {z : Nat → Int} (h : IntsAt w a n z) (hb : Below w.heap.size w w') : IntsAt w' a n z := fun i hi => by
  obtain ⟨b, off, rfl, h1, h2, h3⟩ := h i hi
  exact ⟨b, off, rfl, Nat.lt_of_lt_of_le h1 hb.size, (hb.cell (p := ⟨b, off + i, none⟩) h1).trans h2, h3⟩
theorem StrsAt.below {w w' : World} {a : Option Addr} {n : Nat} {y : Nat → ByteArray} (h : StrsAt w a n y) (hb : Below w.heap.size w w') : StrsAt w' a n y := fun i hi => by
  obtain ⟨b, off, rfl, h1, h2, h3⟩ := h i hi
  exact ⟨b, off, rfl, Nat.lt_of_lt_of_le h1 hb.size, (hb.cell (p := ⟨b, off + i, none⟩) h1).trans h2, h3⟩

/-- At most the first 100 bytes of a string. -/
def cutS (t : ByteArray) : ByteArray := t.extract 0 (min (t.size : Int) 100).toNat
theorem cutS_le (t : ByteArray) : (cutS t).size ≤ 100 := by have := cut_size' t 100 (by omega); unfold cutS; omega

/-- The string of the first k integers and strings. -/
def seqS (z : Nat → Int) (y : Nat → ByteArray) : Nat → ByteArray
  | 0 => ⟨#[]⟩
  | k + 1 => seqS z y k ++ encS (numS (z k)) ++ pstrS (cutS (y k))
/-- What follows the first k of n. -/
def tailS (z : Nat → Int) (y : Nat → ByteArray) (k : Nat) : Nat → ByteArray
  | 0 => ⟨#[]⟩
  | m + 1 => tailS z y k m ++ encS (numS (z (k + m))) ++ pstrS (cutS (y (k + m)))
theorem seqS_split (z : Nat → Int) (y : Nat → ByteArray) (k : Nat) : ∀ m, seqS z y (k + m) = seqS z y k ++ tailS z y k m
  | 0 => by apply ByteArray.ext; simp [tailS, ByteArray.data_append]
  | m + 1 => by
    rw [← Nat.add_assoc, seqS, seqS_split z y k m, tailS]
    apply ByteArray.ext
    simp [ByteArray.data_append]
theorem encN_le (n : Int) : (encS n).size ≤ 9 := by rw [encS_size]; exact Enc.enc_le _
theorem pstrC_le (t : ByteArray) : (pstrS (cutS t)).size ≤ 109 := by
  have := cutS_le t
  have h := pstrS_size (cutS t)
  have := Enc.enc_le (Enc.zig (cutS t).size)
  omega
theorem seqS_le (z : Nat → Int) (y : Nat → ByteArray) : ∀ k, (seqS z y k).size ≤ 118 * k
  | 0 => Nat.le_refl 0
  | k + 1 => by
    have h := seqS_le z y k
    have h1 := encN_le (numS (z k))
    have h2 := pstrC_le (y k)
    simp only [seqS, ByteArray.size_append]
    omega
theorem seqS_size (z : Nat → Int) (y : Nat → ByteArray) (k : Nat) : (seqS z y (k + 1)).size = (seqS z y k).size + (encS (numS (z k))).size + (pstrS (cutS (y k))).size := by
  simp only [seqS, ByteArray.size_append]
/-- The k-th integer is read at its place. -/
theorem seq_int (z : Nat → Int) (y : Nat → ByteArray) {k n : Nat} (h : k < n) :
    Enc.intV (seqS z y n).data.toList ((seqS z y k).size : Int) = (numS (z k), ((seqS z y k).size : Int) + ((encS (numS (z k))).size : Int), 0) := by
  obtain ⟨m, rfl⟩ : ∃ m, n = k + 1 + m := ⟨n - k - 1, by omega⟩
  have hb := numS_bd (z k)
  have e : seqS z y (k + 1 + m) = seqS z y k ++ encS (numS (z k)) ++ (pstrS (cutS (y k)) ++ tailS z y (k + 1) m) := by
    rw [seqS_split, seqS]; apply ByteArray.ext; simp [ByteArray.data_append]
  rw [e]
  exact int_mid _ (by omega) (by omega) _ _
/-- The k-th string is read at its place. -/
theorem seq_str (z : Nat → Int) (y : Nat → ByteArray) {k n : Nat} (h : k < n) :
    Enc.strV (seqS z y n).data.toList (((seqS z y k).size : Int) + ((encS (numS (z k))).size : Int)) = ((cutS (y k)).data.toList, ((seqS z y (k + 1)).size : Int), 0) := by
  obtain ⟨m, rfl⟩ : ∃ m, n = k + 1 + m := ⟨n - k - 1, by omega⟩
  have hc := cutS_le (y k)
  have e : seqS z y (k + 1 + m) = (seqS z y k ++ encS (numS (z k))) ++ pstrS (cutS (y k)) ++ tailS z y (k + 1) m := by
    rw [seqS_split, seqS]
  have h := str_mid (cutS (y k)) (by omega) (seqS z y k ++ encS (numS (z k))) (tailS z y (k + 1) m)
  rw [← e] at h
  rw [seqS_size]
  simp only [ByteArray.size_append, Int.natCast_add] at h ⊢
  exact h
/-- Behind the end nothing is read. -/
theorem seq_end (T : ByteArray) : Enc.intV T.data.toList (T.size : Int) = (0, 0, 10) := by
  have hl := toList_len T
  unfold Enc.intV
  rw [if_neg (by simp), Int.toNat_natCast, ← hl, List.drop_length, Enc.decOK_nil]

/-- 'min' of three integers. -/
theorem run_min3 (w : World) (ts : Array TypeId) (t : TypeId) (x y z : Int) :
    (Builtin.min_ ts t #[.int .i64 x, .int .i64 y, .int .i64 z]).run Tryd.prog w = .ok (.int .i64 (min (min x y) z)) w := by
  have e : ∀ p q : Int, (if q < p then q else p) = min p q := fun p q => by split <;> omega
  simp [Builtin.min_, Builtin.min2, e]
end Go.Proofs.YtfiigjkcmnlddaaDoor
