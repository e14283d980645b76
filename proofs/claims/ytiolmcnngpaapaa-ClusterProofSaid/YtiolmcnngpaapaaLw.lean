/-
  What the laws say, on paper: starts are not great; what has starts is verified, what has none is refuted, and not both; between two periods that have starts all have; more arcs, and arcs in another order.
-/
import Derived.Test.YtiolmcnngpaapaaSmal
namespace Go.Proofs.Ytiolmcnngpaapaa
open Go.RowKit Cy

theorem least_bd {p : Int} {n : Nat} {L : List Arc} (hG : Grd n p L) : ∀ (k : Nat) (x s : List Int) (M : Int), x.length = n → Bd M x → least p L k x = some s → Bd (M + 3000000 * L.length * k) s := by
  intro k; induction k with
  | zero => intro x s M _ _ h; cases h
  | succ k ih =>
    intro x s M hx hb h
    have h1 := fold_bd hG L (x, false) M (fun _ h => h) hx hb
    have h2 : Bd (M + 3000000 * L.length) (raise p L x).1 := h1
    have e : M + 3000000 * (L.length : Int) * ((k + 1 : Nat) : Int) = M + 3000000 * (L.length : Int) + 3000000 * (L.length : Int) * (k : Int) := by
      push_cast; rw [Int.mul_add]; omega
    have hpos : 0 ≤ 3000000 * (L.length : Int) * (k : Int) := Int.mul_nonneg (by omega) (by omega)
    rw [least] at h
    split at h
    · rw [e]; exact ih _ s _ (by rw [raise_len, hx]) h2 h
    · injection h with h
      subst h
      rw [e]; exact h2.mono (by omega)
theorem starts_bd {p : Int} {n : Nat} {L : List Arc} (hG : Grd n p L) {s : List Int} (h : starts p L n = some s) (hn : n ≤ 7) (hL : L.length ≤ 40) : Bd 840000000 s := by
  have := least_bd hG n (zeros n) s 0 (zeros_len n) (fun j => by rw [zeros_at]; simp) h
  refine this.mono ?_
  have h1 : 3000000 * (L.length : Int) * (n : Int) ≤ 3000000 * (L.length : Int) * 7 := Int.mul_le_mul_of_nonneg_left (by omega) (by omega)
  omega
theorem starts_is {p : Int} {n : Nat} {L : List Arc} (hG : Grd n p L) {s : List Int} (h : starts p L n = some s) :
    s.length = n ∧ Feas p L (fun j => s.getD j 0) ∧ (∀ j, 0 ≤ s.getD j 0) ∧ ∀ y : Nat → Int, Feas p L y → (∀ j, j < n → 0 ≤ y j) → ∀ j, j < n → s.getD j 0 ≤ y j := by
  obtain ⟨h1, h2, h3, h4⟩ := least_some hG n (zeros n) s (zeros_len n) h
  exact ⟨h1, h2, fun j => by have := h3 j; rwa [zeros_at] at this, fun y hy h0 => h4 y hy (fun j hj => by rw [zeros_at]; exact h0 j hj)⟩
theorem keeps_iff {p : Int} {L : List Arc} {s : List Int} : keeps p L s = true ↔ Feas p L (fun j => s.getD j 0) := by
  unfold keeps Feas; simp
/-- Starts that Levels gives are verified. -/
theorem ver_of {n : Nat} {p : Int} {L : List Arc} (hv : valid (n : Int) L = true) (hp : isPer p = true) {s : List Int} (hl : s.length = n) (hf : Feas p L (fun j => s.getD j 0)) (hb : Bd 1000000000 s) : verB (n : Int) p L s = true := by
  unfold verB
  rw [hv, hp, keeps_iff.2 hf, decide_eq_true (by omega : (s.length : Int) = (n : Int))]
  simp only [Bool.and_true, Bool.true_and, List.all_eq_true]
  intro x hx
  obtain ⟨i, hi, rfl⟩ := List.getElem_of_mem hx
  have := hb i
  rw [List.getD_eq_getElem?_getD, List.getElem?_eq_getElem hi, Option.getD_some] at this
  exact Cy.within_iff.2 this
theorem feas_of {n p : Int} {L : List Arc} {s : List Int} (h : verB n p L s = true) : Feas p L (fun j => s.getD j 0) := by
  unfold verB at h
  simp only [Bool.and_eq_true] at h
  exact keeps_iff.1 h.2
theorem foll_walk {n : Nat} {p : Int} {L : List Arc} (hG : Grd n p L) : ∀ (c : List Nat) (i j : Nat), (∀ m ∈ c, m < L.length) → Walk L i (arcsOf L c) j → foll L (i : Int) (natsI c) = true ∧ (c ≠ [] → lastTo L (natsI c) = (j : Int)) := by
  intro c; induction c with
  | nil => intro i j _ _; exact ⟨rfl, fun h => absurd rfl h⟩
  | cons m c ih =>
    intro i j hm h
    have hlt := hm m (by simp)
    have e : arcsOf L (m :: c) = L[m] :: arcsOf L c := by unfold arcsOf; rw [List.filterMap_cons_some (List.getElem?_eq_getElem hlt)]
    rw [e] at h
    obtain ⟨h1, h2, h3⟩ := h
    have hg := hG _ h1
    obtain ⟨h4, h5⟩ := ih _ j (fun x hx => hm x (by simp [hx])) h3
    have e2 : ((L[m].t.toNat : Nat) : Int) = L[m].t := by omega
    rw [e2] at h4
    constructor
    · show (match L[((m : Nat) : Int).toNat]? with | none => false | some a => decide (a.f = (i : Int)) && foll L a.t (natsI c)) = true
      rw [Int.toNat_natCast, List.getElem?_eq_getElem hlt]
      simp only [h4, Bool.and_true, decide_eq_true_eq]
      omega
    · intro _
      cases c with
      | nil =>
        have h6 : L[m].t.toNat = j := h3
        show (match L[((m : Nat) : Int).toNat]? with | none => 0 | some a => a.t) = (j : Int)
        rw [Int.toNat_natCast, List.getElem?_eq_getElem hlt]
        simp only
        omega
      | cons x c =>
        have := h5 (by simp)
        unfold lastTo natsI at this ⊢
        rw [List.map_cons, List.map_cons, List.getLast?_cons_cons]
        exact this
/-- The cycle that Levels gives refutes. -/
theorem ref_of {n : Nat} {p : Int} {L : List Arc} (hv : valid (n : Int) L = true) (hp : isPer p = true) (h : starts p L n = none) : refB (n : Int) p L (natsI (cyc p L n)) = true := by
  have hG := valid_good hv hp
  obtain ⟨⟨h1, h2⟩, h3, -⟩ := valid_iff.1 hv
  obtain ⟨c1, c2, c3, v, c4, c5⟩ := cyc_ok hG (by omega) (by omega) h
  generalize cyc p L n = c at *
  obtain ⟨f1, f2⟩ := foll_walk hG c v v c3 c4
  have hne : c ≠ [] := by intro e; subst e; simp at c1
  unfold refB isCyc
  rw [hv, hp, f2 hne, f1, natsI_len, Cy.within_iff.2 (by omega : (1 : Int) ≤ (c.length : Int) ∧ (c.length : Int) ≤ 200), sumOf_nats c3, tot_map, decide_eq_true c5]
  simp only [Bool.and_true, Bool.true_and, List.all_eq_true]
  intro x hx
  obtain ⟨m, hm, rfl⟩ := List.mem_map.1 hx
  have := c3 m hm
  exact Cy.within_iff.2 (by omega)
theorem not_ver {n : Nat} {p : Int} {L : List Arc} (hv : valid (n : Int) L = true) (hp : isPer p = true) (h : starts p L n = none) (s : List Int) : verB (n : Int) p L s = false := by
  cases e : verB (n : Int) p L s with
  | false => rfl
  | true =>
    have hG := valid_good hv hp
    obtain ⟨⟨h1, h2⟩, h3, -⟩ := valid_iff.1 hv
    obtain ⟨c1, c2, c3, v, c4, c5⟩ := cyc_ok hG (by omega) (by omega) h
    have := no_both (feas_of e) c4
    omega
theorem ref_nil (n p : Int) (L : List Arc) : refB n p L [] = false := by
  unfold refB isCyc; simp [Cy.within]
theorem per_of {p : Int} (h : -1000000 ≤ p ∧ p ≤ 1000000) : isPer p = true := Cy.within_iff.2 h
/-- Between two periods with starts all have starts. -/
theorem convex {n : Nat} {lo mi hi : Int} {L : List Arc} (hv : valid (n : Int) L = true) (h1 : isPer lo = true) (h2 : isPer mi = true) (h3 : isPer hi = true) (hl : lo ≤ mi) (hh : mi ≤ hi) (f1 : feas L n lo = true) (f3 : feas L n hi = true) : feas L n mi = true := by
  cases e : feas L n mi with
  | true => rfl
  | false =>
    obtain ⟨⟨n1, n2⟩, -, -⟩ := valid_iff.1 hv
    have hG := valid_good hv h2
    obtain ⟨i, c, _, hw, _, _, ht⟩ := dual hG (by omega) (by unfold feas starts at e; simpa using e)
    by_cases hk : 0 < kSum c
    · rw [feas_low (valid_good hv h1) hw ht hk hl] at f1; exact f1
    · rw [feas_high (valid_good hv h3) hw ht (by omega) hh] at f3; exact f3
/-- More arcs: greater starts. -/
theorem more {n : Nat} {p : Int} {A B : List Arc} (hA : Grd n p A) (hB : Grd n p B) (hm : ∀ a ∈ A, a ∈ B) (hn : 1 ≤ n) {t : List Int} (h : starts p B n = some t) : ∃ s, starts p A n = some s ∧ s.length = n ∧ t.length = n ∧ ∀ j, j < n → s.getD j 0 ≤ t.getD j 0 := by
  obtain ⟨t1, t2, t3, t4⟩ := starts_is hB h
  have hf : Feas p A (fun j => t.getD j 0) := fun a ha => t2 a (hm a ha)
  cases e : starts p A n with
  | none =>
    obtain ⟨i, c, _, hw, _, _, ht⟩ := dual hA hn e
    have := no_both hf hw
    omega
  | some s =>
    obtain ⟨s1, s2, s3, s4⟩ := starts_is hA e
    exact ⟨s, rfl, s1, t1, s4 _ hf (fun j _ => t3 j)⟩
theorem ext_getD {s t : List Int} (h : s.length = t.length) (he : ∀ j, j < s.length → s.getD j 0 = t.getD j 0) : s = t := by
  apply List.ext_getElem h
  intro i h1 h2
  have := he i h1
  rwa [List.getD_eq_getElem?_getD, List.getD_eq_getElem?_getD, List.getElem?_eq_getElem h1, List.getElem?_eq_getElem h2, Option.getD_some, Option.getD_some] at this
/-- Arcs in another order: the same starts. -/
theorem same_starts {n : Nat} {p : Int} {A B : List Arc} (hA : Grd n p A) (hm : ∀ a, a ∈ A ↔ a ∈ B) (hn : 1 ≤ n) : starts p A n = starts p B n := by
  have hB : Grd n p B := fun a ha => hA a ((hm a).2 ha)
  cases ea : starts p A n with
  | some s =>
    obtain ⟨t, h1, h2, h3, h4⟩ := more hB hA (fun a => (hm a).2) hn ea
    obtain ⟨s', h5, h6, h7, h8⟩ := more hA hB (fun a => (hm a).1) hn h1
    rw [ea] at h5; injection h5 with h5; subst h5
    rw [h1]
    congr 1
    exact ext_getD (by omega) (fun j hj => by have := h4 j (by omega); have := h8 j (by omega); omega)
  | none =>
    cases eb : starts p B n with
    | none => rfl
    | some t =>
      obtain ⟨s, h1, _⟩ := more hA hB (fun a => (hm a).1) hn eb
      rw [h1] at ea; cases ea
end Go.Proofs.Ytiolmcnngpaapaa

