/-
  The arithmetic of chapter 3 on paper: sums and products of fractions in the form in which the package reckons them; the floor; rounding.
-/
import Derived.Test.YtkkhmgcjaehnkaaGreatDoorRa
namespace Go.Proofs.YtkkhmgcjaehnkaaGreatDoor.Ra

theorem pos_of {p q : Int} (h : Ok p q) : 0 < q := by have := h.1; omega
theorem mul_ne {a b : Int} (ha : 0 < a) (hb : 0 < b) : a * b ≠ 0 := by have := Int.mul_pos ha hb; omega
/-- Products of the numbers of valid fractions. -/
theorem prod_bd {a b : Int} (ha : -1000000000 ≤ a) (ha' : a ≤ 1000000000) (hb : -1000000000 ≤ b) (hb' : b ≤ 1000000000) : -1000000000000000000 ≤ a * b ∧ a * b ≤ 1000000000000000000 := by
  have h1 : (a * b).natAbs ≤ 1000000000 * 1000000000 := by
    rw [Int.natAbs_mul]; exact Nat.mul_le_mul (by omega) (by omega)
  omega

theorem add_comm' (an ad bn bd : Int) : red (an * bd + bn * ad) (ad * bd) = red (bn * ad + an * bd) (bd * ad) := by
  rw [Int.add_comm, Int.mul_comm ad bd]
theorem mul_comm' (an ad bn bd : Int) : red (an * bn) (ad * bd) = red (bn * an) (bd * ad) := by
  rw [Int.mul_comm an bn, Int.mul_comm ad bd]

theorem add_assoc' {an ad bn bd cn cd p q r s : Int} (ha : Ok an ad) (hb : Ok bn bd) (hc : Ok cn cd)
    (h1 : red (an * bd + bn * ad) (ad * bd) = some (p, q)) (h2 : red (bn * cd + cn * bd) (bd * cd) = some (r, s)) :
    red (p * cd + cn * q) (q * cd) = red (an * s + r * ad) (ad * s) := by
  obtain ⟨o1, e1, _⟩ := red_ok h1
  obtain ⟨o2, e2, _⟩ := red_ok h2
  have pa := pos_of ha; have pb := pos_of hb; have pc := pos_of hc; have pq := pos_of o1; have ps := pos_of o2
  refine red_congr (mul_ne pq pc) (mul_ne pa ps) ?_
  have : bd * ((p * cd + cn * q) * (ad * s)) = bd * ((an * s + r * ad) * (q * cd)) := by grind
  exact Int.eq_of_mul_eq_mul_left (by omega) this
theorem mul_assoc' {an ad bn bd cn cd p q r s : Int} (ha : Ok an ad) (hb : Ok bn bd) (hc : Ok cn cd)
    (h1 : red (an * bn) (ad * bd) = some (p, q)) (h2 : red (bn * cn) (bd * cd) = some (r, s)) :
    red (p * cn) (q * cd) = red (an * r) (ad * s) := by
  obtain ⟨o1, e1, _⟩ := red_ok h1
  obtain ⟨o2, e2, _⟩ := red_ok h2
  have pa := pos_of ha; have pb := pos_of hb; have pc := pos_of hc; have pq := pos_of o1; have ps := pos_of o2
  refine red_congr (mul_ne pq pc) (mul_ne pa ps) ?_
  have : bd * ((p * cn) * (ad * s)) = bd * ((an * r) * (q * cd)) := by grind
  exact Int.eq_of_mul_eq_mul_left (by omega) this
theorem distrib' {an ad bn bd cn cd p q r s t u : Int} (ha : Ok an ad) (hb : Ok bn bd) (hc : Ok cn cd)
    (h0 : red (bn * cd + cn * bd) (bd * cd) = some (p, q)) (h1 : red (an * bn) (ad * bd) = some (r, s)) (h2 : red (an * cn) (ad * cd) = some (t, u)) :
    red (an * p) (ad * q) = red (r * u + t * s) (s * u) := by
  obtain ⟨o0, e0, _⟩ := red_ok h0
  obtain ⟨o1, e1, _⟩ := red_ok h1
  obtain ⟨o2, e2, _⟩ := red_ok h2
  have pa := pos_of ha; have pb := pos_of hb; have pc := pos_of hc; have pq := pos_of o0; have ps := pos_of o1; have pu := pos_of o2
  refine red_congr (mul_ne pa pq) (mul_ne ps pu) ?_
  have : (bd * cd) * (ad * ((an * p) * (s * u))) = (bd * cd) * (ad * ((r * u + t * s) * (ad * q))) := by grind
  exact Int.eq_of_mul_eq_mul_left (by omega) (Int.eq_of_mul_eq_mul_left (mul_ne pb pc) this)
theorem sub_add {an ad bn bd p q : Int} (ha : Ok an ad) (hb : Ok bn bd) (h1 : red (an * bd + bn * ad) (ad * bd) = some (p, q)) :
    red (p * bd - bn * q) (q * bd) = some (an, ad) := by
  obtain ⟨o1, e1, _⟩ := red_ok h1
  have pa := pos_of ha; have pb := pos_of hb; have pq := pos_of o1
  refine red_of (mul_ne pq pb) ha ?_
  have : bd * (an * (q * bd)) = bd * ((p * bd - bn * q) * ad) := by grind
  exact Int.eq_of_mul_eq_mul_left (by omega) this
theorem div_mul {an ad bn bd p q : Int} (ha : Ok an ad) (hb : Ok bn bd) (hn : bn ≠ 0) (h1 : red (an * bn) (ad * bd) = some (p, q)) :
    red (p * bd) (q * bn) = some (an, ad) := by
  obtain ⟨o1, e1, _⟩ := red_ok h1
  have pa := pos_of ha; have pb := pos_of hb; have pq := pos_of o1
  refine red_of (Int.mul_ne_zero (by omega) hn) ha ?_
  grind
theorem ok_int (m : Int) (h : -1000000000 ≤ m) (h' : m ≤ 1000000000) : Ok m 1 := ⟨by omega, by omega, h, h', by simp⟩
theorem red_int (m : Int) (h : -1000000000 ≤ m) (h' : m ≤ 1000000000) : red m 1 = some (m, 1) := red_self (ok_int m h h')

/-! ### the order -/
theorem cmp_trans {an ad bn bd cn cd : Int} (ha : 0 < ad) (hb : 0 < bd) (hc : 0 < cd) (h1 : an * bd ≤ bn * ad) (h2 : bn * cd ≤ cn * bd) : an * cd ≤ cn * ad := by
  have e1 := Int.mul_le_mul_of_nonneg_right h1 (by omega : 0 ≤ cd)
  have e2 := Int.mul_le_mul_of_nonneg_right h2 (by omega : 0 ≤ ad)
  have : bd * (an * cd) ≤ bd * (cn * ad) := by grind
  exact Int.le_of_mul_le_mul_left this hb
theorem cmp_trans_lt {an ad bn bd cn cd : Int} (ha : 0 < ad) (hb : 0 < bd) (hc : 0 < cd) (h1 : an * bd < bn * ad) (h2 : bn * cd ≤ cn * bd) : an * cd < cn * ad := by
  have e1 := Int.mul_lt_mul_of_pos_right h1 hc
  have e2 := Int.mul_le_mul_of_nonneg_right h2 (by omega : 0 ≤ ad)
  have : bd * (an * cd) < bd * (cn * ad) := by grind
  exact Int.lt_of_mul_lt_mul_left this (by omega)
/-- The sign of the difference is that of the comparison. -/
theorem sub_sign {an ad bn bd p q : Int} (ha : Ok an ad) (hb : Ok bn bd) (h : red (bn * ad - an * bd) (bd * ad) = some (p, q)) :
    (0 < p ↔ an * bd < bn * ad) ∧ (p = 0 ↔ an * bd = bn * ad) := by
  obtain ⟨o, e, _⟩ := red_ok h
  have pa := pos_of ha; have pb := pos_of hb; have pq := pos_of o
  have pm := Int.mul_pos pb pa
  constructor
  · constructor
    · intro hp
      have h1 := Int.mul_pos hp pm
      rw [e] at h1
      have := Int.pos_of_mul_pos_left h1 pq
      omega
    · intro hl
      have h1 : 0 < (bn * ad - an * bd) * q := Int.mul_pos (by omega) pq
      rw [← e] at h1
      exact Int.pos_of_mul_pos_left h1 pm
  · constructor
    · intro hp
      rw [hp, Int.zero_mul] at e
      rcases Int.mul_eq_zero.1 e.symm with h | h <;> omega
    · intro hl
      have h1 : bn * ad - an * bd = 0 := by omega
      rw [h1, Int.zero_mul] at e
      rcases Int.mul_eq_zero.1 e with h | h
      · exact h
      · omega

/-! ### the floor -/
/-- What the package reckons: the quotient toward zero, one less behind a negative rest. -/
def flo (n d : Int) : Int := if n.tmod d < 0 then n.tdiv d - 1 else n.tdiv d
theorem flo_eq {n d : Int} (h : 0 < d) : flo n d = n / d := by
  unfold flo
  have e1 := Int.mul_tdiv_add_tmod n d
  have e2 := Int.mul_ediv_add_emod n d
  have b1 := Int.emod_nonneg n (by omega : d ≠ 0)
  have b2 := Int.emod_lt_of_pos n h
  have b3 := Int.tmod_lt_of_pos n h
  have b4 : -d < n.tmod d := by
    have := Int.lt_tmod_of_pos n h; omega
  generalize n.tmod d = r at *
  generalize n.tdiv d = q at *
  generalize n / d = Q at *
  generalize n % d = R at *
  have key : d * (q - Q) = R - r := by grind
  split
  · have h1 : d * (q - Q) < d * 2 := by omega
    have h2 : d * 0 < d * (q - Q) := by omega
    have := Int.lt_of_mul_lt_mul_left h1 (by omega)
    have := Int.lt_of_mul_lt_mul_left h2 (by omega)
    omega
  · have h1 : d * (q - Q) < d * 1 := by omega
    have h2 : d * (-1) < d * (q - Q) := by omega
    have := Int.lt_of_mul_lt_mul_left h1 (by omega)
    have := Int.lt_of_mul_lt_mul_left h2 (by omega)
    omega
theorem flo_bd {n d : Int} (h : 0 < d) : d * flo n d ≤ n ∧ n < d * flo n d + d := by
  rw [flo_eq h]
  have e2 := Int.mul_ediv_add_emod n d
  have b1 := Int.emod_nonneg n (by omega : d ≠ 0)
  have b2 := Int.emod_lt_of_pos n h
  omega
theorem flo_uniq {n d k : Int} (h : 0 < d) (h1 : d * k ≤ n) (h2 : n < d * k + d) : flo n d = k := by
  obtain ⟨h3, h4⟩ := flo_bd (n := n) h
  have e1 : d * k < d * (flo n d + 1) := by rw [Int.mul_add, Int.mul_one]; omega
  have e2 : d * flo n d < d * (k + 1) := by rw [Int.mul_add, Int.mul_one]; omega
  have := Int.lt_of_mul_lt_mul_left e1 (by omega)
  have := Int.lt_of_mul_lt_mul_left e2 (by omega)
  omega
end Go.Proofs.YtkkhmgcjaehnkaaGreatDoor.Ra
