/-
  Fractions on paper: what chapter 3 calls valid, the fraction of a quotient (red), and the one law by which all its uses go: red n d is (p, q) exactly if (p, q) is valid and p d = n q.
-/
namespace Go.Proofs.YtkkhmgcjaehnkaaGreatDoor.Ra

/-- Valid, as chapter 3 says it. -/
def Ok (n d : Int) : Prop := 1 ≤ d ∧ d ≤ 1000000000 ∧ -1000000000 ≤ n ∧ n ≤ 1000000000 ∧ Nat.gcd n.natAbs d.natAbs = 1
instance (n d : Int) : Decidable (Ok n d) := by unfold Ok; infer_instance
def over (n d : Int) : Nat := n.natAbs / Nat.gcd n.natAbs d.natAbs
def under (n d : Int) : Nat := d.natAbs / Nat.gcd n.natAbs d.natAbs
def num (n d : Int) : Int := if (decide (n < 0) != decide (d < 0)) = true then -(over n d : Int) else (over n d : Int)
/-- The valid fraction of n / d. -/
def red (n d : Int) : Option (Int × Int) :=
  if d = 0 then none else if over n d ≤ 1000000000 ∧ under n d ≤ 1000000000 then some (num n d, (under n d : Int)) else none

theorem gcd_pos {n d : Int} (h : d ≠ 0) : 0 < Nat.gcd n.natAbs d.natAbs := Nat.gcd_pos_of_pos_right _ (by omega)
theorem over_eq (n d : Int) : over n d * Nat.gcd n.natAbs d.natAbs = n.natAbs := Nat.div_mul_cancel (Nat.gcd_dvd_left _ _)
theorem under_eq (n d : Int) : under n d * Nat.gcd n.natAbs d.natAbs = d.natAbs := Nat.div_mul_cancel (Nat.gcd_dvd_right _ _)
theorem under_pos {n d : Int} (h : d ≠ 0) : 1 ≤ under n d := by
  have h1 := under_eq n d
  have h2 : 0 < d.natAbs := by omega
  rcases Nat.eq_zero_or_pos (under n d) with h3 | h3
  · rw [h3] at h1; omega
  · exact h3
theorem coprime {n d : Int} (h : d ≠ 0) : Nat.gcd (over n d) (under n d) = 1 := by
  unfold over under
  rw [Nat.gcd_div (Nat.gcd_dvd_left _ _) (Nat.gcd_dvd_right _ _)]; exact Nat.div_self (gcd_pos h)
theorem num_abs (n d : Int) : (num n d).natAbs = over n d := by unfold num; split <;> omega

theorem cross {n d : Int} (hd : d ≠ 0) : num n d * d = n * (under n d : Int) := by
  have h1 := over_eq n d
  have h2 := under_eq n d
  have hg := gcd_pos (n := n) hd
  generalize hk : Nat.gcd n.natAbs d.natAbs = k at h1 h2 hg
  unfold num
  generalize over n d = a at h1 ⊢
  generalize under n d = b at h2 ⊢
  have e1 : (a : Int) * k = (n.natAbs : Int) := by exact_mod_cast h1
  have e2 : (b : Int) * k = (d.natAbs : Int) := by exact_mod_cast h2
  by_cases hn : n < 0 <;> by_cases hd' : d < 0
  · have f1 : (n.natAbs : Int) = -n := by omega
    have f2 : (d.natAbs : Int) = -d := by omega
    simp only [hn, hd', decide_true, bne_self_eq_false, Bool.false_eq_true, if_false]
    rw [f1] at e1; rw [f2] at e2
    obtain rfl : n = -(a * k) := by omega
    obtain rfl : d = -(b * k) := by omega
    grind
  · have f1 : (n.natAbs : Int) = -n := by omega
    have f2 : (d.natAbs : Int) = d := by omega
    simp only [hn, hd', decide_true, decide_false, Bool.bne_false, if_true]
    rw [f1] at e1; rw [f2] at e2
    obtain rfl : n = -(a * k) := by omega
    obtain rfl : d = (b * k) := by omega
    grind
  · have f1 : (n.natAbs : Int) = n := by omega
    have f2 : (d.natAbs : Int) = -d := by omega
    simp only [hn, hd', decide_true, decide_false, Bool.bne_true, Bool.not_false, if_true]
    rw [f1] at e1; rw [f2] at e2
    obtain rfl : n = (a * k) := by omega
    obtain rfl : d = -(b * k) := by omega
    grind
  · have f1 : (n.natAbs : Int) = n := by omega
    have f2 : (d.natAbs : Int) = d := by omega
    simp only [hn, hd', decide_false, bne_self_eq_false, Bool.false_eq_true, if_false]
    rw [f1] at e1; rw [f2] at e2
    obtain rfl : n = (a * k) := by omega
    obtain rfl : d = (b * k) := by omega
    grind

theorem red_ok {n d p q : Int} (h : red n d = some (p, q)) : Ok p q ∧ p * d = n * q ∧ d ≠ 0 := by
  unfold red at h
  split at h
  · cases h
  rename_i hd
  split at h
  · rename_i hf
    injection h with h; injection h with h1 h2; subst h1; subst h2
    have ha := num_abs n d
    have hu := under_pos (n := n) hd
    refine ⟨⟨by omega, by omega, by omega, by omega, ?_⟩, cross hd, hd⟩
    rw [ha, Int.natAbs_natCast]; exact coprime hd
  · cases h

/-- A fraction whose numbers have no common divisor divides the numbers of every other writing. -/
theorem scaled {n d p q : Int} (hq : 1 ≤ q) (hc : Nat.gcd p.natAbs q.natAbs = 1) (h : p * d = n * q) : ∃ k : Int, n = p * k ∧ d = q * k := by
  have h1 : q.natAbs ∣ p.natAbs * d.natAbs := by
    rw [← Int.natAbs_mul, h, Int.natAbs_mul]; exact Nat.dvd_mul_left _ _
  have h2 : q.natAbs ∣ d.natAbs := Nat.Coprime.dvd_of_dvd_mul_left (by rw [Nat.Coprime, Nat.gcd_comm]; exact hc) h1
  obtain ⟨k, rfl⟩ := Int.natAbs_dvd_natAbs.1 h2
  refine ⟨k, ?_, rfl⟩
  have h3 : n * q = (p * k) * q := by rw [← h]; grind
  exact Int.eq_of_mul_eq_mul_right (by omega) h3

theorem red_of {n d p q : Int} (hd : d ≠ 0) (ho : Ok p q) (h : p * d = n * q) : red n d = some (p, q) := by
  obtain ⟨h1, h2, h3, h4, h5⟩ := ho
  obtain ⟨k, rfl, rfl⟩ := scaled h1 h5 h
  have hk : k ≠ 0 := by rintro rfl; simp at hd
  have hg : Nat.gcd (p * k).natAbs (q * k).natAbs = k.natAbs := by
    rw [Int.natAbs_mul, Int.natAbs_mul, Nat.gcd_mul_right, h5, Nat.one_mul]
  have ha : over (p * k) (q * k) = p.natAbs := by
    unfold over; rw [hg, Int.natAbs_mul]; exact Nat.mul_div_cancel _ (by omega)
  have hb : under (p * k) (q * k) = q.natAbs := by
    unfold under; rw [hg, Int.natAbs_mul]; exact Nat.mul_div_cancel _ (by omega)
  unfold red
  rw [if_neg hd, ha, hb, if_pos (by omega)]
  have hn : num (p * k) (q * k) = p := by
    unfold num
    rw [ha]
    by_cases hk0 : 0 < k
    · have e1 : (q * k < 0) = False := by
        have := Int.mul_pos (by omega : 0 < q) hk0; simp; omega
      have e2 : (p * k < 0) = (p < 0) := by
        apply propext; constructor
        · intro hh; rcases (by omega : p < 0 ∨ 0 ≤ p) with h | h
          · exact h
          · have := Int.mul_nonneg h (by omega : 0 ≤ k); omega
        · intro hh; exact Int.mul_neg_of_neg_of_pos hh hk0
      simp only [e1, e2, decide_false, Bool.bne_false]
      split <;> rename_i hh <;> simp at hh <;> omega
    · have hk1 : k < 0 := by omega
      have e1 : (q * k < 0) = True := by
        have := Int.mul_neg_of_pos_of_neg (by omega : 0 < q) hk1; simp; omega
      have e2 : (p * k < 0) = (0 < p) := by
        apply propext; constructor
        · intro hh; rcases (by omega : 0 < p ∨ p ≤ 0) with h | h
          · exact h
          · have := Int.mul_nonneg_of_nonpos_of_nonpos h (by omega : k ≤ 0); omega
        · intro hh; exact Int.mul_neg_of_pos_of_neg hh hk1
      simp only [e1, e2, decide_true, Bool.bne_true]
      split <;> rename_i hh <;> simp at hh <;> omega
  rw [hn]
  congr 2; omega

theorem red_iff {n d p q : Int} (hd : d ≠ 0) : red n d = some (p, q) ↔ Ok p q ∧ p * d = n * q :=
  ⟨fun h => ⟨(red_ok h).1, (red_ok h).2.1⟩, fun h => red_of hd h.1 h.2⟩

/-- Two writings of one number have one fraction. -/
theorem red_congr {n d n' d' : Int} (hd : d ≠ 0) (hd' : d' ≠ 0) (h : n * d' = n' * d) : red n d = red n' d' := by
  have key : ∀ (a b a' b' : Int), b ≠ 0 → b' ≠ 0 → a * b' = a' * b → ∀ p q, red a b = some (p, q) → red a' b' = some (p, q) := by
    intro a b a' b' hb hb' hh p q hr
    obtain ⟨h1, h2, _⟩ := red_ok hr
    refine red_of hb' h1 ?_
    have : b * (p * b') = b * (a' * q) := by grind
    exact Int.eq_of_mul_eq_mul_left hb this
  cases hr : red n d with
  | some x => obtain ⟨p, q⟩ := x; exact (key n d n' d' hd hd' h p q hr).symm
  | none =>
    cases hr' : red n' d' with
    | none => rfl
    | some x => obtain ⟨p, q⟩ := x; have := key n' d' n d hd' hd h.symm p q hr'; rw [hr] at this; cases this

theorem red_self {p q : Int} (h : Ok p q) : red p q = some (p, q) := red_of (by have := h.1; omega) h rfl
theorem red_zero (n : Int) : red n 0 = none := by unfold red; rw [if_pos rfl]
/-- Two valid fractions of one number are the same. -/
theorem ok_eq {p q r s : Int} (h : Ok p q) (h' : Ok r s) (e : p * s = r * q) : p = r ∧ q = s := by
  have h1 := red_self h
  have h2 : red p q = some (r, s) := red_of (by have := h.1; omega) h' (by grind)
  rw [h1] at h2; injection h2 with h2; injection h2 with a b; exact ⟨a, b⟩
end Go.Proofs.YtkkhmgcjaehnkaaGreatDoor.Ra
