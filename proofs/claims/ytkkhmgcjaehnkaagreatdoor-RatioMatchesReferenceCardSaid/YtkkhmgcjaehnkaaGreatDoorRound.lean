/-
  Rounding on paper: what Round reckons is the nearest multiple; rounding it again changes nothing; a greater number is not rounded to a smaller one.
-/
import Derived.Test.YtkkhmgcjaehnkaaGreatDoorArith
namespace Go.Proofs.YtkkhmgcjaehnkaaGreatDoor.Ra

/-- The multiple that Round takes. -/
def rnd (n q d : Int) : Int := flo (2 * n * d + q) (2 * q)
theorem rnd_bd {n q : Int} (d : Int) (h : 0 < q) : 2 * q * rnd n q d ≤ 2 * n * d + q ∧ 2 * n * d + q < 2 * q * rnd n q d + 2 * q := flo_bd (by omega)
theorem rnd_again {K d p q : Int} (h : red K d = some (p, q)) : rnd p q d = K := by
  obtain ⟨o, e, _⟩ := red_ok h
  have pq := pos_of o
  have e1 : 2 * p * d = 2 * q * K := by grind
  exact flo_uniq (by omega) (by omega) (by omega)
theorem red_fits {n d : Int} (hd : d ≠ 0) (h1 : n.natAbs ≤ 1000000000) (h2 : d.natAbs ≤ 1000000000) : ∃ p q, red n d = some (p, q) ∧ p.natAbs ≤ n.natAbs ∧ q.natAbs ≤ d.natAbs := by
  have a : over n d ≤ n.natAbs := Nat.div_le_self _ _
  have b : under n d ≤ d.natAbs := Nat.div_le_self _ _
  refine ⟨num n d, (under n d : Int), ?_, ?_, ?_⟩
  · unfold red; rw [if_neg hd, if_pos ⟨by omega, by omega⟩]
  · rw [num_abs]; exact a
  · rw [Int.natAbs_natCast]; exact b
theorem rnd_small {n q d : Int} (hq : 0 < q) (hn : n.natAbs ≤ 999999) (hd0 : 1 ≤ d) (hd : d ≤ 1000) : (rnd n q d).natAbs ≤ 1000000000 := by
  obtain ⟨h1, h2⟩ := rnd_bd (n := n) d hq
  generalize rnd n q d = K at *
  have hp : (n * d).natAbs ≤ 999999 * 1000 := by rw [Int.natAbs_mul]; exact Nat.mul_le_mul hn (by omega)
  rw [Int.mul_assoc 2 n d, Int.mul_assoc 2 q K] at h1 h2
  generalize n * d = x at *
  rcases (by omega : K.natAbs ≤ 1000000000 ∨ 1000000001 ≤ K ∨ K ≤ -1000000001) with h | h | h
  · exact h
  · have := Int.mul_le_mul_of_nonneg_left h (by omega : 0 ≤ q); omega
  · have := Int.mul_le_mul_of_nonneg_left h (by omega : 0 ≤ q); omega
theorem rnd_mono {an ad bn bd : Int} (d : Int) (hd : 0 < d) (ha : 0 < ad) (hb : 0 < bd) (h : an * bd ≤ bn * ad) : rnd an ad d ≤ rnd bn bd d := by
  obtain ⟨h1, _⟩ := rnd_bd (n := an) d ha
  obtain ⟨_, h4⟩ := rnd_bd (n := bn) d hb
  generalize rnd an ad d = K at *
  generalize rnd bn bd d = L at *
  rcases (by omega : K ≤ L ∨ L + 1 ≤ K) with h5 | h5
  · exact h5
  · exfalso
    have e1 := Int.mul_le_mul_of_nonneg_left h1 (by omega : 0 ≤ bd)
    have e2 := Int.mul_lt_mul_of_pos_left h4 ha
    have e3 := Int.mul_le_mul_of_nonneg_left h (by omega : 0 ≤ 2 * d)
    have e4 := Int.mul_le_mul_of_nonneg_left h5 (by have := Int.mul_pos ha hb; omega : 0 ≤ 2 * (ad * bd))
    have g1 : bd * (2 * ad * K) = 2 * (ad * bd) * K := by grind
    have g2 : bd * (2 * an * d + ad) = 2 * d * (an * bd) + ad * bd := by grind
    have g3 : ad * (2 * bn * d + bd) = 2 * d * (bn * ad) + ad * bd := by grind
    have g4 : ad * (2 * bd * L + 2 * bd) = 2 * (ad * bd) * (L + 1) := by grind
    omega
theorem rnd_le {K L d p q r s : Int} (hd : 0 < d) (h1 : red K d = some (p, q)) (h2 : red L d = some (r, s)) (h : K ≤ L) : p * s ≤ r * q := by
  obtain ⟨o1, e1, _⟩ := red_ok h1
  obtain ⟨o2, e2, _⟩ := red_ok h2
  have pq := pos_of o1; have ps := pos_of o2
  have g := Int.mul_le_mul_of_nonneg_left h (by have := Int.mul_pos pq ps; omega : 0 ≤ q * s)
  have : d * (p * s) ≤ d * (r * q) := by
    have g1 : d * (p * s) = q * s * K := by grind
    have g2 : d * (r * q) = q * s * L := by grind
    omega
  exact Int.le_of_mul_le_mul_left this hd
/-- The multiple in lowest terms: its denominator divides d, and its numerator times the quotient is the multiple. -/
theorem rnd_parts {K d p q : Int} (h : red K d = some (p, q)) : d.tmod q = 0 ∧ p * d.tdiv q = K := by
  obtain ⟨o, e, hd⟩ := red_ok h
  obtain ⟨k, rfl, rfl⟩ := scaled o.1 o.2.2.2.2 e
  have pq := pos_of o
  exact ⟨Int.mul_tmod_right _ _, by rw [Int.mul_tdiv_cancel_left _ (by omega)]⟩
end Go.Proofs.YtkkhmgcjaehnkaaGreatDoor.Ra
