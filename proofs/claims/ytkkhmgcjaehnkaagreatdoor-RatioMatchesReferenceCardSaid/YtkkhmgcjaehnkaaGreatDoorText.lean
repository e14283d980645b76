/-
  The text of a fraction on paper: a numeral is read as its number; where '/' stands in it; parse, which answers a fraction exactly if it is valid and the text is its own.
-/
import Derived.Test.YtkkhmgcjaehnkaaGreatDoorArith
import Derived.Lib.AtoiTie
import Derived.Lib.ItoaNum
import Derived.Lib.IndexMore
namespace Go.Proofs.YtkkhmgcjaehnkaaGreatDoor.Ra
open Go.Lib

def isDig (b : UInt8) : Prop := 48 ≤ b.toNat ∧ b.toNat ≤ 57
theorem ofNat_dig {k : Nat} (h : k < 10) : (UInt8.ofNat (48 + k)).toNat = 48 + k := by
  rw [UInt8.toNat_ofNat']; omega
theorem dec_dig (u : Nat) : ∀ b ∈ decDigits u, isDig b := by
  induction u using Nat.strongRecOn with
  | _ u ih =>
    intro b hb
    rw [decDigits] at hb
    split at hb
    · rename_i h; rw [List.mem_singleton] at hb; subst hb; unfold isDig; rw [ofNat_dig h]; omega
    · rename_i h
      rcases List.mem_append.1 hb with hb | hb
      · exact ih (u / 10) (by omega) b hb
      · rw [List.mem_singleton] at hb; subst hb; unfold isDig; rw [ofNat_dig (by omega)]; omega
theorem decFrom_append : ∀ (l r : List UInt8) (acc : Nat), decFrom acc (l ++ r) = (decFrom acc l).bind fun a => decFrom a r
  | [], _, _ => rfl
  | b :: l, r, acc => by
    simp only [List.cons_append, decFrom]
    cases digitVal b with
    | none => rfl
    | some d => exact decFrom_append l r _
theorem digitVal_of {k : Nat} (h : k < 10) : digitVal (UInt8.ofNat (48 + k)) = some k := by
  unfold digitVal; rw [ofNat_dig h, if_pos (by omega)]; congr 1; omega
theorem decFrom_dec (u : Nat) : decFrom 0 (decDigits u) = some u := by
  induction u using Nat.strongRecOn with
  | _ u ih =>
    rw [decDigits]
    split
    · rename_i h; simp only [decFrom, digitVal_of h]; congr 1; omega
    · rename_i h
      rw [decFrom_append, ih (u / 10) (by omega)]
      simp only [Option.bind, decFrom, digitVal_of (by omega : u % 10 < 10)]
      congr 1; omega
theorem dec_ne (u : Nat) : decDigits u ≠ [] := by
  intro h; have := decDigits_length u; rw [h] at this; have := nDigits_pos u; simp at *; omega
theorem nDigits_le : ∀ (k u : Nat), u < 10 ^ (k + 1) → nDigits u ≤ k + 1
  | 0, u, h => by rw [nDigits_small (by omega)]; omega
  | k + 1, u, h => by
    by_cases h1 : u < 10
    · rw [nDigits_small h1]; omega
    · rw [nDigits_big h1]
      have := nDigits_le k (u / 10) (by rw [Nat.pow_succ] at h; omega)
      omega
theorem dec_len {u : Nat} (h : u ≤ 1000000000) : (decDigits u).length ≤ 10 := by
  rw [decDigits_length]; exact nDigits_le 9 u (by omega)
theorem itoa_len {n : Int} (h : -1000000000 ≤ n) (h' : n ≤ 1000000000) : (itoa n).length ≤ 11 := by
  unfold itoa; split
  · have := dec_len (u := n.natAbs) (by omega); simp; omega
  · have := dec_len (u := n.toNat) (by omega); omega
theorem itoa_pos_len {n : Int} (h : 0 ≤ n) (h' : n ≤ 1000000000) : (itoa n).length ≤ 10 := by
  unfold itoa; rw [if_neg (by omega)]; exact dec_len (by omega)
theorem itoa_no47 (n : Int) : (47 : UInt8) ∉ itoa n := by
  intro h
  unfold itoa at h
  split at h
  · rcases List.mem_cons.1 h with h | h
    · revert h; decide
    · have := dec_dig _ _ h; revert this; unfold isDig; decide
  · have := dec_dig _ _ h; revert this; unfold isDig; decide
theorem decNat_dec (u : Nat) : decNat (decDigits u) = some u := by
  unfold decNat
  rw [if_neg (by simpa using dec_ne u)]; exact decFrom_dec u
theorem atoi_itoa {n : Int} (h : -1000000000 ≤ n) (h' : n ≤ 1000000000) : atoiAll (itoa n) = .ok n := by
  rw [atoiAll_short _ (by have := itoa_len h h'; omega)]
  suffices e : atoi (itoa n) = some n by rw [e]; rfl
  unfold itoa
  split
  · simp only [atoi, beq_self_eq_true, if_true, decNat_dec, Option.map]
    congr 1; omega
  · cases hl : decDigits n.toNat with
    | nil => exact absurd hl (dec_ne _)
    | cons b r =>
      have hb := dec_dig n.toNat b (by rw [hl]; simp)
      have h1 : (b == 45) = false := by rw [beq_eq_false_iff_ne]; rintro rfl; revert hb; unfold isDig; decide
      have h2 : (b == 43) = false := by rw [beq_eq_false_iff_ne]; rintro rfl; revert hb; unfold isDig; decide
      simp only [atoi, h1, h2, Bool.false_eq_true, if_false]
      rw [← hl, decNat_dec]
      simp; omega

/-! ### the text, and reading it -/
def txt (n d : Int) : List UInt8 := if d = 1 then itoa n else itoa n ++ 47 :: itoa d
theorem occ_cons (a : UInt8) (s : List UInt8) (i : Nat) : occAt s [a] i = true ↔ s[i]? = some a := by
  unfold occAt
  rw [List.isPrefixOf_iff_prefix]
  cases h : s.drop i with
  | nil =>
    have : s[i]? = none := by rw [List.getElem?_eq_none_iff]; simpa using h
    simp [this]
  | cons x r =>
    have : s[i]? = some x := by rw [← List.head?_drop, h]; rfl
    rw [this]; simp [eq_comm]
theorem cut_none {s : List UInt8} (h : (47 : UInt8) ∉ s) : cut s [47] = (s, [], false) := by
  unfold cut
  rcases index_spec s [47] with ⟨h1, _⟩ | ⟨i, _, _, h3, _⟩
  · rw [h1, if_neg (by omega)]
  · exact absurd (List.mem_of_getElem? ((occ_cons _ _ _).1 h3)) h
theorem cut_some {a b : List UInt8} (h : (47 : UInt8) ∉ a) : cut (a ++ 47 :: b) [47] = (a, b, true) := by
  have hi : index (a ++ 47 :: b) [47] = (a.length : Int) := by
    refine index_first (by simp) ((occ_cons _ _ _).2 (by simp)) ?_
    intro j hj
    rw [Bool.eq_false_iff]; intro hh
    have := (occ_cons _ _ _).1 hh
    rw [List.getElem?_append_left hj] at this
    exact h (List.mem_of_getElem? this)
  unfold cut
  rw [hi, if_pos (by omega)]
  simp
/-- The second number of a text: 1 if there is none. -/
def secondN (l : List UInt8) : NumEnd Int := if (cut l [47]).2.2 = true then atoiAll (cut l [47]).2.1 else .ok 1
/-- What Parse reckons. -/
def parse (l : List UInt8) : Option (Int × Int) :=
  match atoiAll (cut l [47]).1 with
  | .ok n => match secondN l with
    | .ok d => if Ok n d ∧ txt n d = l then some (n, d) else none
    | _ => none
  | _ => none
theorem parse_iff {l : List UInt8} {n d : Int} : parse l = some (n, d) ↔ Ok n d ∧ txt n d = l := by
  constructor
  · intro h
    unfold parse at h
    split at h
    · split at h
      · split at h
        · injection h with h; injection h with h1 h2; subst h1; subst h2; assumption
        · cases h
      · cases h
    · cases h
  · rintro ⟨ho, rfl⟩
    have hn := atoi_itoa ho.2.2.1 ho.2.2.2.1
    have hd := atoi_itoa (n := d) (by have := ho.1; omega) ho.2.1
    have no := itoa_no47 n
    unfold parse secondN
    by_cases h1 : d = 1
    · subst h1
      have e : txt n 1 = itoa n := by unfold txt; rw [if_pos rfl]
      rw [e, cut_none no]
      simp only [hn, Bool.false_eq_true, if_false]
      rw [if_pos ⟨ho, e⟩]
    · have e : txt n d = itoa n ++ 47 :: itoa d := by unfold txt; rw [if_neg h1]
      rw [e, cut_some no]
      simp only [hn, if_true, hd]
      rw [if_pos ⟨ho, e⟩]
theorem txt_len {n d : Int} (h : Ok n d) : (txt n d).length ≤ 22 := by
  have a := itoa_len h.2.2.1 h.2.2.2.1
  have b := itoa_pos_len (n := d) (by have := h.1; omega) h.2.1
  unfold txt; split
  · omega
  · simp; omega
end Go.Proofs.YtkkhmgcjaehnkaaGreatDoor.Ra
