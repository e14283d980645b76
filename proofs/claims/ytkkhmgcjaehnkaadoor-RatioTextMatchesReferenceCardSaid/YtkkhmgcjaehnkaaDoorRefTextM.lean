/-
  How the reference reads a fraction, on paper: its numeral, its slash, its bound on the length; it answers what parse answers.
-/
import Derived.Test.YtkkhmgcjaehnkaaDoorText
namespace Go.Proofs.YtkkhmgcjaehnkaaDoor.Ra
open Go.Lib

/-- The digits of a row, whatever stands between them. -/
def rdF (acc : Nat) : List UInt8 → Nat
  | [] => acc
  | b :: r => rdF (if 48 ≤ b.toNat ∧ b.toNat ≤ 57 then 10 * acc + (b.toNat - 48) else acc) r
theorem rdF_append : ∀ (l r : List UInt8) (acc : Nat), rdF acc (l ++ r) = rdF (rdF acc l) r
  | [], _, _ => rfl
  | _ :: l, r, _ => rdF_append l r _
theorem rdF_dec (u : Nat) : rdF 0 (decDigits u) = u := by
  induction u using Nat.strongRecOn with
  | _ u ih =>
    rw [decDigits]
    split
    · rename_i h; simp only [rdF, ofNat_dig h]; rw [if_pos (by omega)]; omega
    · rename_i h
      rw [rdF_append, ih (u / 10) (by omega)]
      simp only [rdF, ofNat_dig (by omega : u % 10 < 10)]; rw [if_pos (by omega)]; omega
theorem rdF_lt : ∀ (l : List UInt8) (acc k : Nat), acc < 10 ^ k → rdF acc l < 10 ^ (k + l.length)
  | [], acc, k, h => by simpa [rdF] using h
  | b :: l, acc, k, h => by
    have : rdF (if 48 ≤ b.toNat ∧ b.toNat ≤ 57 then 10 * acc + (b.toNat - 48) else acc) l < 10 ^ ((k + 1) + l.length) := by
      refine rdF_lt l _ (k + 1) ?_
      rw [Nat.pow_succ]
      split <;> omega
    simp only [rdF, List.length_cons]
    rw [show k + (l.length + 1) = k + 1 + l.length by omega]; exact this
theorem rdF_small {l : List UInt8} (h : l.length ≤ 11) : rdF 0 l < 100000000000 := by
  have h1 := rdF_lt l 0 0 (by simp)
  have : 10 ^ (0 + l.length) ≤ 10 ^ 11 := Nat.pow_le_pow_right (by omega) (by omega)
  omega
def rd (l : List UInt8) : Int := if l.head? = some 45 then -(rdF 0 l : Int) else (rdF 0 l : Int)
theorem rd_itoa (n : Int) : rd (itoa n) = n := by
  unfold rd itoa
  split
  · rename_i h
    rw [List.head?_cons, if_pos rfl]
    have : rdF 0 (45 :: decDigits n.natAbs) = n.natAbs := by
      simp only [rdF]; rw [if_neg (by decide)]; exact rdF_dec _
    rw [this]; omega
  · rename_i h
    rw [rdF_dec]
    have hh : (decDigits n.toNat).head? ≠ some 45 := by
      intro e
      have := dec_dig n.toNat 45 (List.mem_of_mem_head? e)
      revert this; unfold isDig; decide
    rw [if_neg hh]; omega
/-- Where the first '/' stands; the length if there is none. -/
def slash (l : List UInt8) : Nat := l.findIdx (· == 47)
theorem slash_le (l : List UInt8) : slash l ≤ l.length := List.findIdx_le_length
theorem slash_none {l : List UInt8} (h : (47 : UInt8) ∉ l) : slash l = l.length := by
  unfold slash
  rw [List.findIdx_eq_length]
  intro x hx
  rw [beq_eq_false_iff_ne]; rintro rfl; exact h hx
theorem slash_some {a b : List UInt8} (h : (47 : UInt8) ∉ a) : slash (a ++ 47 :: b) = a.length := by
  unfold slash
  rw [List.findIdx_append]
  have := slash_none h
  unfold slash at this
  rw [this, if_neg (by omega)]
  simp [List.findIdx_cons]
/-- One byte more from the right. -/
theorem slash_step {l : List UInt8} {i : Nat} (h : i < l.length) : slash (l.drop i) = if l[i] = 47 then 0 else slash (l.drop (i + 1)) + 1 := by
  unfold slash
  rw [List.drop_eq_getElem_cons h, List.findIdx_cons]
  by_cases e : l[i] = 47
  · rw [if_pos e, e]; rfl
  · have e' : (l[i] == 47) = false := by simpa using e
    rw [if_neg e, e']; rfl
def refNum (l : List UInt8) : Int := rd (l.take (min (slash l) 11))
def refDen (l : List UInt8) : Int := if slash l < l.length then rd ((l.take (min l.length (slash l + 12))).drop (slash l + 1)) else 1
/-- What the reference reckons. -/
def refParse (l : List UInt8) : Option (Int × Int) :=
  if 22 < l.length then none else if Ok (refNum l) (refDen l) ∧ txt (refNum l) (refDen l) = l then some (refNum l, refDen l) else none
theorem refParse_eq (l : List UInt8) : refParse l = parse l := by
  have key : ∀ n d, Ok n d → txt n d = l → refParse l = some (n, d) := by
    rintro n d ho rfl
    have hlen := txt_len ho
    have no := itoa_no47 n
    have l1 := itoa_len ho.2.2.1 ho.2.2.2.1
    have l2 := itoa_pos_len (n := d) (by have := ho.1; omega) ho.2.1
    have e : refNum (txt n d) = n ∧ refDen (txt n d) = d := by
      unfold refNum refDen
      by_cases h1 : d = 1
      · have e : txt n d = itoa n := by unfold txt; rw [if_pos h1]
        rw [e, slash_none no, if_neg (by omega), List.take_of_length_le (by omega)]
        exact ⟨rd_itoa n, h1.symm⟩
      · have e : txt n d = itoa n ++ 47 :: itoa d := by unfold txt; rw [if_neg h1]
        rw [e, slash_some no, if_pos (by simp), show min (itoa n).length 11 = (itoa n).length by omega]
        refine ⟨by rw [List.take_left' rfl]; exact rd_itoa n, ?_⟩
        rw [List.take_of_length_le (by simp; omega)]
        rw [show (itoa n ++ 47 :: itoa d).drop ((itoa n).length + 1) = itoa d by
          rw [← List.drop_drop, List.drop_left' rfl]; rfl]
        exact rd_itoa d
    unfold refParse
    rw [e.1, e.2, if_neg (by omega), if_pos ⟨ho, rfl⟩]
  cases h : parse l with
  | some x => obtain ⟨n, d⟩ := x; obtain ⟨h1, h2⟩ := parse_iff.1 h; exact key n d h1 h2
  | none =>
    unfold refParse
    split
    · rfl
    · split
      · rename_i h1
        have := parse_iff.2 h1; rw [h] at this; cases this
      · rfl
end Go.Proofs.YtkkhmgcjaehnkaaDoor.Ra
