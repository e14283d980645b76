/-
  What the laws say of best schedules, on paper; the statements' examples.
-/
import Derived.Test.YtiolmcnngpaapaaBs3
import Derived.Test.YtiolmcnngpaapaaDualW
namespace Go.Proofs.Ytiolmcnngpaapaa
open Go.RowKit Cl
open Cy (Arc)

/-- There are starts, as numbers that keep all arcs. -/
theorem feas_iff {n : Nat} {p : Int} {L : List Arc} (hG : Cy.Grd n p L) (h1 : 1 ≤ n) (h32 : n ≤ 32) : Cy.feas L n p = true ↔ ∃ x : Nat → Int, Cy.Feas p L x := by
  constructor
  · intro h
    unfold Cy.feas at h
    obtain ⟨s, hs⟩ := Option.isSome_iff_exists.1 h
    exact ⟨_, (Cy.least_some hG n (Cy.zeros n) s (Cy.zeros_len n) hs).2.1⟩
  · rintro ⟨x, hx⟩
    unfold Cy.feas
    cases e : Cy.starts p L n with
    | some s => rfl
    | none =>
      obtain ⟨_, _, _, v, hw, ht⟩ := Cy.cyc_ok hG h1 h32 e
      have := Cy.no_both hx hw
      omega
theorem feasO_iff {c : Tool} {o : List Int} (hm : o ∈ ordersT c) {p : Int} (hp : -1000000 ≤ p ∧ p ≤ 1000000) : feasO c o p = true ↔ ∃ x : Nat → Int, Cy.Feas p (arcsC c o) x := by
  obtain ⟨hv, ho⟩ := mem_valid hm
  have hl := ordLen_of hm
  exact feas_iff (Cy.valid_good (arcsC_valid hv ho) (Cy.within_iff.2 hp)) (by omega) (by omega)

/-! ### the examples -/
def exT : Tool := ⟨[⟨20, 12⟩, ⟨30, 12⟩], 1, 1, 2, 1⟩
def exTwo : Tool := ⟨[⟨20, 12⟩, ⟨30, 12⟩], 1, 1, 2, 2⟩
def exShort : Tool := ⟨[⟨20, 9⟩, ⟨30, 9⟩], 1, 1, 2, 2⟩
def exZero : Tool := ⟨[], 0, 0, 0, 0⟩
def exWant : List Arc := [⟨0, 2, 6, 0⟩, ⟨2, 1, 6, 0⟩, ⟨1, 0, 6, 1⟩, ⟨0, 1, 24, 0⟩, ⟨1, 0, -36, 0⟩, ⟨1, 2, 34, 1⟩, ⟨2, 1, -46, -1⟩]
theorem ex_orders : ordersT exT = [[0, 1, 2], [0, 2, 1]] ∧ ordersT exTwo = [[0, 1, 2]] ∧ ordersT exShort = [[0, 1, 2]] ∧ ordersT exZero = [] := ⟨by kernel_rfl, by kernel_rfl, by kernel_rfl, by kernel_rfl⟩
theorem ex_arcs : arcsR exT [0, 2, 1] = exWant ∧ errR exT [0, 2, 1] = 0 ∧ errR exT [0, 1] = 130 := ⟨by kernel_rfl, by kernel_rfl, by kernel_rfl⟩
theorem ex_valid : validT exZero = false := by kernel_rfl
theorem ex_low : ((List.range 39).all fun r => !feasO exT [0, 1, 2] ((r : Int) + 1) && !feasO exT [0, 2, 1] ((r : Int) + 1)) = true ∧ feasO exT [0, 1, 2] 40 = false ∧ feasO exT [0, 2, 1] 40 = true := ⟨by kernel_rfl, by kernel_rfl, by kernel_rfl⟩
theorem ex_low2 : ((List.range 31).all fun r => !feasO exTwo [0, 1, 2] ((r : Int) + 1)) = true ∧ feasO exTwo [0, 1, 2] 32 = true := ⟨by kernel_rfl, by kernel_rfl⟩
theorem ex_proved : (provedS exT 40 [0, 2, 1]).s = [0, 24, 18] ∧ (provedS exTwo 32 [0, 1, 2]).s = [0, 4, 8] := ⟨by kernel_rfl, by kernel_rfl⟩
theorem ex_check : checkS exT (provedS exT 40 [0, 2, 1]) = true ∧ checkS exTwo (provedS exTwo 32 [0, 1, 2]) = true ∧ checkS exTwo (provedS exT 40 [0, 2, 1]) = false ∧ checkS exT ⟨0, [], [], []⟩ = false := ⟨by kernel_rfl, by kernel_rfl, by kernel_rfl, by kernel_rfl⟩
theorem all_range {k : Nat} {f : Nat → Bool} (h : (List.range k).all f = true) {i : Nat} (hi : i < k) : f i = true := List.all_eq_true.1 h i (List.mem_range.2 hi)
theorem ex_best {p : Int} {o : List Int} (h : BestIs exT p o) : p = 40 ∧ o = [0, 2, 1] := by
  have hm := h.mem
  rw [ex_orders.1] at hm
  have hm2 : o = [0, 1, 2] ∨ o = [0, 2, 1] := by simpa using hm
  have hle : p ≤ 40 := by
    rcases Int.lt_or_le 40 p with hp | hp
    · have := h.low [0, 2, 1] (by rw [ex_orders.1]; simp) 40 (by omega) hp
      rw [ex_low.2.2] at this; cases this
    · exact hp
  have hge : ¬ p < 40 := fun hp => by
    have h1 := h.bd.1
    have h2 := all_range ex_low.1 (i := (p - 1).toNat) (by omega)
    rw [show ((p - 1).toNat : Int) + 1 = p by omega] at h2
    simp only [Bool.and_eq_true, Bool.not_eq_true'] at h2
    rcases hm2 with rfl | rfl
    · rw [h.yes] at h2; cases h2.1
    · rw [h.yes] at h2; cases h2.2
  obtain rfl : p = 40 := by omega
  refine ⟨rfl, ?_⟩
  rcases hm2 with rfl | rfl
  · have := h.yes; rw [ex_low.2.1] at this; cases this
  · rfl
theorem ex_some : ¬ NoBest exT := fun h => by
  have := h [0, 2, 1] (by rw [ex_orders.1]; simp) 40 (by omega) (by omega)
  rw [ex_low.2.2] at this; cases this
theorem ex_best2 {p : Int} {o : List Int} (h : BestIs exTwo p o) : p = 32 ∧ o = [0, 1, 2] := by
  have hm := h.mem
  rw [ex_orders.2.1] at hm
  obtain rfl : o = [0, 1, 2] := by simpa using hm
  have hle : p ≤ 32 := by
    rcases Int.lt_or_le 32 p with hp | hp
    · have := h.low [0, 1, 2] (by rw [ex_orders.2.1]; simp) 32 (by omega) hp
      rw [ex_low2.2] at this; cases this
    · exact hp
  have hge : ¬ p < 32 := fun hp => by
    have h1 := h.bd.1
    have h2 := all_range ex_low2.1 (i := (p - 1).toNat) (by omega)
    rw [show ((p - 1).toNat : Int) + 1 = p by omega] at h2
    rw [h.yes] at h2; cases h2
  exact ⟨by omega, rfl⟩
theorem ex_some2 : ¬ NoBest exTwo := fun h => by
  have := h [0, 1, 2] (by rw [ex_orders.2.1]; simp) 32 (by omega) (by omega)
  rw [ex_low2.2] at this; cases this
theorem ex_short : ∀ p o, ¬ BestIs exShort p o := fun p o h => by
  have hm := h.mem
  have h5 := (feasO_iff hm (p := p) (by have := h.bd; omega)).1 h.yes
  obtain ⟨x, hx⟩ := h5
  rw [ex_orders.2.2.1] at hm
  obtain rfl : o = [0, 1, 2] := by simpa using hm
  have e : arcsC exShort [0, 1, 2] = [⟨0, 1, 4, 0⟩, ⟨1, 2, 4, 0⟩, ⟨2, 0, 4, 1⟩, ⟨1, 1, 22, 1⟩, ⟨1, 1, -31, -1⟩, ⟨2, 2, 32, 1⟩, ⟨2, 2, -41, -1⟩] := by kernel_rfl
  rw [e] at hx
  have h1 := hx ⟨1, 1, -31, -1⟩ (by simp)
  have h2 := hx ⟨2, 2, 32, 1⟩ (by simp)
  simp only [Cy.len] at h1 h2
  omega
end Go.Proofs.Ytiolmcnngpaapaa
