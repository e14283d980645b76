/-
  Two blades on paper: which periods are possible.
-/
import Derived.Test.YtiolmcnngpaapaaPb
namespace Go.Proofs.Ytiolmcnngpaapaa
open Go.RowKit Cl
open Cy (Arc)

def wk2 (c : Tool) : Int := c.pick + c.place
def wantTo (c : Tool) : Nat → Int
  | 0 => ((c.chs.length : Int) + 1) * (wk2 c + c.travel)
  | k + 1 => max (wantTo c k) (wk2 c + (c.chs.getD k ⟨0, 0⟩).t)
def mostTo (c : Tool) : Nat → Int
  | 0 => 1000000
  | k + 1 => min (mostTo c k) (wk2 c + (c.chs.getD k ⟨0, 0⟩).t + (c.chs.getD k ⟨0, 0⟩).s)
theorem wantTo_le (c : Tool) (p : Int) : ∀ k, wantTo c k ≤ p ↔ ((c.chs.length : Int) + 1) * (wk2 c + c.travel) ≤ p ∧ ∀ i, i < k → wk2 c + (c.chs.getD i ⟨0, 0⟩).t ≤ p := by
  intro k; induction k with
  | zero => simp [wantTo]
  | succ k ih =>
    rw [wantTo, Int.max_le, ih]
    constructor
    · rintro ⟨⟨h1, h2⟩, h3⟩
      refine ⟨h1, fun i hi => ?_⟩
      rcases Nat.lt_or_eq_of_le (Nat.le_of_lt_succ hi) with h | rfl
      · exact h2 i h
      · exact h3
    · rintro ⟨h1, h2⟩; exact ⟨⟨h1, fun i hi => h2 i (by omega)⟩, h2 k (by omega)⟩
theorem le_mostTo (c : Tool) (p : Int) : ∀ k, p ≤ mostTo c k ↔ p ≤ 1000000 ∧ ∀ i, i < k → p ≤ wk2 c + (c.chs.getD i ⟨0, 0⟩).t + (c.chs.getD i ⟨0, 0⟩).s := by
  intro k; induction k with
  | zero => simp [mostTo]
  | succ k ih =>
    rw [mostTo, Int.le_min, ih]
    constructor
    · rintro ⟨⟨h1, h2⟩, h3⟩
      refine ⟨h1, fun i hi => ?_⟩
      rcases Nat.lt_or_eq_of_le (Nat.le_of_lt_succ hi) with h | rfl
      · exact h2 i h
      · exact h3
    · rintro ⟨h1, h2⟩; exact ⟨⟨h1, fun i hi => h2 i (by omega)⟩, h2 k (by omega)⟩
theorem iota_getD {t i : Nat} (h : i < t) : (iota t).getD i 0 = (i : Int) := by
  rw [List.getD_eq_getElem?_getD, List.getElem?_eq_getElem (by rw [iota_len]; exact h), iota_at]; rfl
theorem two_feas {c : Tool} (hv : validT c = true) (hb : c.blades = 2) {p : Int} (hp : -1000000 ≤ p ∧ p ≤ 1000000) :
    ordersT c = [iota (c.chs.length + 1)] ∧ (feasO c (iota (c.chs.length + 1)) p = true ↔ ((c.chs.length : Int) + 1) * (wk2 c + c.travel) ≤ p ∧ ∀ i, i < c.chs.length → wk2 c + (c.chs.getD i ⟨0, 0⟩).t ≤ p ∧ p ≤ wk2 c + (c.chs.getD i ⟨0, 0⟩).t + (c.chs.getD i ⟨0, 0⟩).s) := by
  have ho : ordersT c = [iota (c.chs.length + 1)] := by unfold ordersT; rw [hv, if_pos rfl, if_neg (by omega)]
  refine ⟨ho, ?_⟩
  have hw : work c = wk2 c := by unfold work wk2; rw [if_pos hb]
  have htr : ∀ x y, travels c x y = true := fun x y => by unfold travels; rw [if_pos hb]
  generalize hn : c.chs.length = n at *
  have hra : ∀ i, i ≤ n → ringArc c (iota (n + 1)) i = ⟨(i : Int), if i < n then ((i + 1 : Nat) : Int) else 0, wk2 c + c.travel, if i < n then 0 else 1⟩ := fun i hi => by
    unfold ringArc nxt tokOf
    rw [htr, if_pos rfl, hw, iota_getD (by omega), iota_len]
    by_cases h : i < n
    · rw [if_pos (by omega), if_pos (by omega), if_pos h, if_pos h, iota_getD (by omega)]
    · rw [if_neg (by omega), if_neg (by omega), if_neg h, if_neg h, iota_getD (by omega)]; rfl
  have hca : ∀ i, chArcs c (iota (n + 1)) i = [⟨(i : Int) + 1, (i : Int) + 1, wk2 c + (c.chs.getD i ⟨0, 0⟩).t, 1⟩, ⟨(i : Int) + 1, (i : Int) + 1, -(wk2 c + (c.chs.getD i ⟨0, 0⟩).t + (c.chs.getD i ⟨0, 0⟩).s), -1⟩] := fun i => by
    unfold chArcs stayArcs; rw [if_pos hb, hw]
  have hmem : ∀ a, a ∈ arcsC c (iota (n + 1)) ↔ (∃ i, i ≤ n ∧ a = ringArc c (iota (n + 1)) i) ∨ ∃ i, i < n ∧ a ∈ chArcs c (iota (n + 1)) i := fun a => by
    unfold arcsC ringTo chTo
    rw [List.mem_append, List.mem_map, List.mem_flatMap, iota_len, hn]
    constructor
    · rintro (⟨i, h1, h2⟩ | ⟨i, h1, h2⟩)
      · rw [List.mem_range] at h1; exact .inl ⟨i, by omega, h2.symm⟩
      · rw [List.mem_range] at h1; exact .inr ⟨i, h1, h2⟩
    · rintro (⟨i, h1, h2⟩ | ⟨i, h1, h2⟩)
      · exact .inl ⟨i, by rw [List.mem_range]; omega, h2.symm⟩
      · exact .inr ⟨i, by rw [List.mem_range]; exact h1, h2⟩
  rw [feasO_iff (by rw [ho]; simp) hp]
  generalize wk2 c = w at *
  generalize c.travel = t at *
  constructor
  · rintro ⟨x, hx⟩
    have hstep : ∀ i, i < n → x i + (w + t) ≤ x (i + 1) := fun i hi => by
      have := hx _ ((hmem _).2 (.inl ⟨i, by omega, rfl⟩))
      rw [hra i (by omega)] at this
      simp only [Cy.len, if_pos hi, Int.toNat_natCast, Int.mul_zero, Int.sub_zero] at this
      exact this
    have hlast : x n + (w + t) - p ≤ x 0 := by
      have := hx _ ((hmem _).2 (.inl ⟨n, Nat.le_refl _, rfl⟩))
      rw [hra n (Nat.le_refl _)] at this
      simp only [Cy.len, if_neg (Nat.lt_irrefl n), Int.toNat_natCast, Int.mul_one, Int.toNat_zero] at this
      omega
    have hall : ∀ i, i ≤ n → x 0 + (i : Int) * (w + t) ≤ x i := by
      intro i; induction i with
      | zero => intro _; simp
      | succ i ih =>
        intro hi
        have h1 := ih (by omega)
        have h2 := hstep i (by omega)
        have : ((i + 1 : Nat) : Int) * (w + t) = (i : Int) * (w + t) + (w + t) := by rw [Int.natCast_add, Int.add_mul]; simp
        omega
    refine ⟨?_, fun i hi => ?_⟩
    · have := hall n (Nat.le_refl _)
      rw [Int.add_mul, Int.one_mul]; omega
    · have h1 := hx ⟨(i : Int) + 1, (i : Int) + 1, w + (c.chs.getD i ⟨0, 0⟩).t, 1⟩ ((hmem _).2 (.inr ⟨i, hi, by rw [hca]; simp⟩))
      have h2 := hx ⟨(i : Int) + 1, (i : Int) + 1, -(w + (c.chs.getD i ⟨0, 0⟩).t + (c.chs.getD i ⟨0, 0⟩).s), -1⟩ ((hmem _).2 (.inr ⟨i, hi, by rw [hca]; simp⟩))
      simp only [Cy.len] at h1 h2
      omega
  · rintro ⟨h1, h2⟩
    refine ⟨fun i => (i : Int) * (w + t), fun a ha => ?_⟩
    rcases (hmem a).1 ha with ⟨i, hi, rfl⟩ | ⟨i, hi, ha⟩
    · rw [hra i hi]
      by_cases h : i < n
      · simp only [Cy.len, if_pos h, Int.toNat_natCast, Int.mul_zero, Int.sub_zero]
        rw [Int.natCast_add, Int.add_mul]; simp
      · obtain rfl : i = n := by omega
        simp only [Cy.len, if_neg (Nat.lt_irrefl i), Int.toNat_natCast, Int.mul_one, Int.toNat_zero]
        rw [Int.add_mul, Int.one_mul] at h1
        simp; omega
    · rw [hca] at ha
      have := h2 i hi
      simp only [List.mem_cons, List.not_mem_nil, or_false] at ha
      rcases ha with rfl | rfl <;> simp only [Cy.len] <;> omega
theorem two_any {c : Tool} (hv : validT c = true) (hb : c.blades = 2) {p : Int} (hp : 1 ≤ p ∧ p ≤ 1000000) :
    feasO c (iota (c.chs.length + 1)) p = true ↔ wantTo c c.chs.length ≤ p ∧ p ≤ mostTo c c.chs.length := by
  rw [(two_feas hv hb (p := p) (by omega)).2, wantTo_le, le_mostTo]
  constructor
  · rintro ⟨h1, h2⟩; exact ⟨⟨h1, fun i hi => (h2 i hi).1⟩, hp.2, fun i hi => (h2 i hi).2⟩
  · rintro ⟨⟨h1, h2⟩, -, h3⟩; exact ⟨h1, fun i hi => ⟨h2 i hi, h3 i hi⟩⟩
end Go.Proofs.Ytiolmcnngpaapaa
