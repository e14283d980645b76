/-
  The laws on paper: longer stays, one chamber, two blades, the best schedule is accepted.
-/
import Derived.Test.YtiolmcnngpaapaaPa
import Derived.Test.YtiolmcnngpaapaaLw
namespace Go.Proofs.Ytiolmcnngpaapaa
open Go.RowKit Cl
open Cy (Arc)

/-! ### Best, in words -/
theorem best_or {c : Tool} {f : Bool} {s : Sch} (h1 : f = false → NoBest c ∧ s = ⟨0, [], [], []⟩) (h2 : f = true → ∃ p o, BestIs c p o ∧ s = provedS c p o) {o : List Int} {p : Int} (ho : o ∈ ordersT c) (hp : 1 ≤ p ∧ p ≤ 1000000) (hf : feasO c o p = true) :
    f = true ∧ ∃ q o', BestIs c q o' ∧ s = provedS c q o' ∧ q ≤ p := by
  cases f with
  | false => have := (h1 rfl).1 o ho p hp.1 hp.2; rw [hf] at this; cases this
  | true =>
    obtain ⟨q, o', h3, h4⟩ := h2 rfl
    refine ⟨rfl, q, o', h3, h4, ?_⟩
    rcases Int.lt_or_le p q with h | h
    · have := h3.low o ho p hp.1 h; rw [hf] at this; cases this
    · exact h
theorem per1 {p : Int} (h : 0 ≤ p ∧ p ≤ 1000000) : Cy.isPer p = true := Cy.within_iff.2 (by omega)
/-- Check accepts a proved schedule. -/
theorem check_proved {c : Tool} {p : Int} {o : List Int} (hm : o ∈ ordersT c) (hp : 1 ≤ p ∧ p ≤ 1000000) (hy : feasO c o p = true) (hn : 1 < p → feasO c o (p - 1) = false) : checkS c (provedS c p o) = true := by
  obtain ⟨hv, ho⟩ := mem_valid hm
  have hl := ordLen_of hm
  have hva := arcsC_valid hv ho
  have hch := (validT_iff.1 hv).2.2.2.2.1
  have hal : (arcsC c o).length ≤ 40 := by rw [arcsC_len]; omega
  have hw : Cy.within p 1 1000000 = true := Cy.within_iff.2 hp
  have hd := dual_facts hva (per1 (p := p) (by omega)) (by omega) hal
  have hlv : Cy.lvB ((o.length : Nat) : Int) p (arcsC c o) = true := by rw [lvB_is hva (per1 (p := p) (by omega))]; exact hy
  have e1 : Cy.verB ((o.length : Nat) : Int) p (arcsC c o) (Cy.lvS ((o.length : Nat) : Int) p (arcsC c o)) = true := by rw [hd.1, hlv]
  unfold checkS provedS
  simp only
  rw [decide_eq_true hm, hw, e1]
  by_cases h1 : 1 < p
  · rw [if_pos h1]
    have hd2 := dual_facts hva (per1 (p := p - 1) (by omega)) (by omega) hal
    have hlv2 : Cy.lvB ((o.length : Nat) : Int) (p - 1) (arcsC c o) = false := by rw [lvB_is hva (per1 (p := p - 1) (by omega))]; exact hn h1
    rw [hd2.2.1, hlv2]; simp
  · obtain rfl : p = 1 := by omega
    simp
theorem check_best {c : Tool} {p : Int} {o : List Int} (h : BestIs c p o) : checkS c (provedS c p o) = true :=
  check_proved h.mem h.bd h.yes (fun h1 => h.low o h.mem (p - 1) (by omega) (by omega))
theorem orders_some {c : Tool} (hv : validT c = true) : 0 < (ordersT c).length := by
  have hch := (validT_iff.1 hv).2.2.2.2.1
  unfold ordersT
  rw [hv, if_pos rfl]
  split
  · obtain h | h | h | h : c.chs.length = 1 ∨ c.chs.length = 2 ∨ c.chs.length = 3 ∨ c.chs.length = 4 := by omega
    all_goals rw [h]; decide
  · simp
theorem orders_len {c : Tool} : (ordersT c).length ≤ 100000 := by
  unfold ordersT
  split
  · rename_i hv
    have hch := (validT_iff.1 hv).2.2.2.2.1
    split
    · obtain h | h | h | h : c.chs.length = 1 ∨ c.chs.length = 2 ∨ c.chs.length = 3 ∨ c.chs.length = 4 := by omega
      all_goals rw [h]; decide
    · simp
  · simp

/-! ### longer stays -/
structure Longer (c d : Tool) : Prop where
  pick : d.pick = c.pick
  place : d.place = c.place
  travel : d.travel = c.travel
  blades : d.blades = c.blades
  len : d.chs.length = c.chs.length
  at_ : ∀ i, (d.chs.getD i ⟨0, 0⟩).t = (c.chs.getD i ⟨0, 0⟩).t ∧ (c.chs.getD i ⟨0, 0⟩).s ≤ (d.chs.getD i ⟨0, 0⟩).s
theorem Longer.orders {c d : Tool} (h : Longer c d) (hc : validT c = true) (hd : validT d = true) : ordersT d = ordersT c := by
  unfold ordersT; rw [hc, hd, h.len, h.blades]
theorem Longer.feas {c d : Tool} (h : Longer c d) {o : List Int} {p : Int} {x : Nat → Int} (hx : Cy.Feas p (arcsC c o) x) : Cy.Feas p (arcsC d o) x := by
  have hw : work d = work c := by unfold work; rw [h.blades, h.pick, h.place, h.travel]
  have hr : ringTo d o o.length = ringTo c o o.length := by
    unfold ringTo; congr 1; funext i; unfold ringArc travels; rw [hw, h.blades, h.travel]
  intro a ha
  unfold arcsC at ha
  rcases List.mem_append.1 ha with ha | ha
  · rw [hr] at ha
    exact hx a (by unfold arcsC; exact List.mem_append_left _ ha)
  · unfold chTo at ha
    obtain ⟨i, hi, ha⟩ := List.mem_flatMap.1 ha
    rw [h.len] at hi
    have hmem : ∀ b ∈ chArcs c o i, x b.f.toNat + Cy.len p b ≤ x b.t.toNat := fun b hb => hx b (by
      unfold arcsC; exact List.mem_append_right _ (by unfold chTo; exact List.mem_flatMap.2 ⟨i, hi, hb⟩))
    obtain ⟨e1, e2⟩ := h.at_ i
    unfold chArcs stayArcs at ha hmem
    rw [hw, e1] at ha
    rw [h.blades] at ha
    split at ha
    · rename_i hb
      rw [if_pos hb] at hmem
      rcases List.mem_cons.1 ha with rfl | ha
      · exact hmem _ (by simp)
      · rw [List.mem_singleton] at ha; subst ha
        have := hmem _ (List.mem_cons_of_mem _ (List.mem_singleton.2 rfl))
        simp only [Cy.len] at this ⊢
        omega
    · rename_i hb
      rw [if_neg hb] at hmem
      rcases List.mem_cons.1 ha with rfl | ha
      · exact hmem _ (by simp)
      · rw [List.mem_singleton] at ha; subst ha
        have := hmem _ (List.mem_cons_of_mem _ (List.mem_singleton.2 rfl))
        simp only [Cy.len] at this ⊢
        omega
theorem Longer.best {c d : Tool} (h : Longer c d) (hc : validT c = true) (hd : validT d = true) {p : Int} {o : List Int} (hb : BestIs c p o) : o ∈ ordersT d ∧ feasO d o p = true := by
  have hm : o ∈ ordersT d := by rw [h.orders hc hd]; exact hb.mem
  refine ⟨hm, (feasO_iff hm (by have := hb.bd; omega)).2 ?_⟩
  obtain ⟨x, hx⟩ := (feasO_iff hb.mem (by have := hb.bd; omega)).1 hb.yes
  exact ⟨x, h.feas hx⟩

/-! ### one chamber, one blade -/
theorem one_feas {c : Tool} (hv : validT c = true) (hb : c.blades = 1) (t s : Int) (hc : c.chs = [⟨t, s⟩]) {p : Int} (hp : -1000000 ≤ p ∧ p ≤ 1000000) :
    ordersT c = [[0, 1]] ∧ (feasO c [0, 1] p = true ↔ 2 * (c.pick + c.travel + c.place) + t + c.travel ≤ p) := by
  have ho : ordersT c = [[0, 1]] := by unfold ordersT; rw [hv, if_pos rfl, if_pos hb, hc]; rfl
  have hw : work c = c.pick + c.travel + c.place := by unfold work; rw [if_neg (by omega)]
  have hva := validT_iff.1 hv
  have hts : (0 ≤ t ∧ t ≤ 100000) ∧ (0 ≤ s ∧ s ≤ 100000) := hva.2.2.2.2.2 ⟨t, s⟩ (by rw [hc]; simp)
  have he : arcsC c [0, 1] = [⟨0, 1, work c, 0⟩, ⟨1, 0, work c + c.travel, 1⟩, ⟨0, 1, work c + t, 0⟩, ⟨1, 0, -(work c + t + s), 0⟩] := by
    have h1 : travels c 0 1 = false := by unfold travels; rw [if_neg (by omega)]; rfl
    have h2 : travels c 1 0 = true := by unfold travels; rw [if_neg (by omega)]; rfl
    have r : ringTo c [0, 1] 2 = [ringArc c [0, 1] 0, ringArc c [0, 1] 1] := rfl
    have r0 : ringArc c [0, 1] 0 = ⟨0, 1, work c, 0⟩ := by show (⟨0, 1, if travels c 0 1 then work c + c.travel else work c, 0⟩ : Arc) = _; rw [h1]; rfl
    have r1 : ringArc c [0, 1] 1 = ⟨1, 0, work c + c.travel, 1⟩ := by show (⟨1, 0, if travels c 1 0 then work c + c.travel else work c, 1⟩ : Arc) = _; rw [h2]; rfl
    have r2 : chTo c [0, 1] 1 = chArcs c [0, 1] 0 := by unfold chTo; simp
    have r3 : chArcs c [0, 1] 0 = [⟨0, 1, work c + t, 0⟩, ⟨1, 0, -(work c + t + s), 0⟩] := by
      unfold chArcs stayArcs; rw [if_neg (by omega), hc]; rfl
    unfold arcsC
    rw [hc]
    show ringTo c [0, 1] 2 ++ chTo c [0, 1] 1 = _
    rw [r, r0, r1, r2, r3]; rfl
  refine ⟨ho, ?_⟩
  rw [feasO_iff (by rw [ho]; simp) hp, he, ← hw]
  constructor
  · rintro ⟨x, hx⟩
    have h2 := hx ⟨1, 0, work c + c.travel, 1⟩ (by simp)
    have h3 := hx ⟨0, 1, work c + t, 0⟩ (by simp)
    simp only [Cy.len] at h2 h3
    omega
  · intro h
    refine ⟨fun i => if i = 1 then work c + t else 0, fun a ha => ?_⟩
    simp only [List.mem_cons, List.not_mem_nil, or_false] at ha
    rcases ha with rfl | rfl | rfl | rfl <;> simp [Cy.len] <;> omega
end Go.Proofs.Ytiolmcnngpaapaa
