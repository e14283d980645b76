/-
  What a pick tells: on paper.
-/
import Derived.Test.YtjdhjlhcdpekbaaAhead
import Derived.Test.YtjdhjlhcdpekbaaKeep
namespace Go.Proofs.Ytjdhjlhcdpekbaa
open Go.RowKit Go.Shelf Go.Sort Dsp

/-- A free span is the first free time just when it is not busy. -/
theorem first_now {K : Kal.Kal} (hK : Kal.Ok K) {t : Nat} (ht : t < 60) {f n : Int} (hn : 1 ≤ n) (hf : 0 ≤ f) (hfn : f + n ≤ 1000000) :
    (firstK K (t : Int) f n = some f ↔ busyK K (t : Int) f (f + n) = false) ∧ (firstK K (t : Int) f n = some f → ∀ o : Int, 1 ≤ o → o ≤ 1000000 → Kal.free K ⟨t, f, f + n, o⟩ = true) := by
  have hit : Kal.isTool (t : Int) = true := by unfold Kal.isTool; simp; omega
  have hb : ∀ s, Kal.busy (K t) s (s + n) = Kal.anyHits (K t) s (s + n) := fun s => by unfold Kal.busy; rw [decide_eq_true (by omega), Bool.true_and]
  have hs := Kal.first_is (f := f) (n := n) (hK.srt t ht) (fun b hb => (Kal.okB_iff.1 (hK.mem t ht b hb).1).2.2.2.1) hn
  have e : firstK K (t : Int) f n = Kal.first (K t) f n := by
    unfold firstK; rw [if_pos ⟨hit, hn⟩, Int.toNat_natCast, show max f 0 = f by omega]
  have eb : busyK K (t : Int) f (f + n) = Kal.anyHits (K t) f (f + n) := by unfold busyK; rw [hit, Int.toNat_natCast, hb]; rfl
  rw [e, eb]
  refine ⟨⟨fun h => ?_, fun h => ?_⟩, fun h o h1 h2 => ?_⟩
  · rw [h] at hs; exact hs.2.2.1
  · refine Kal.IsFirst.unique hs ⟨Int.le_refl _, hfn, h, fun s a1 a2 => by omega⟩
  · rw [h] at hs
    unfold Kal.free
    rw [Kal.okB_iff.2 ⟨by simp only; omega, by simp only; omega, by simp only; omega, by simp only; omega, by simp only; omega, by simp only; omega⟩]
    simp only [Int.toNat_natCast]
    rw [hb, hs.2.2.1]; rfl

/-- The lots of the statements' jobs are different. -/
theorem jobs_at {X : List (List Int)} {i : Nat} (h : i < (jobsL X).length) : (jobsL X)[i] = mkJ i (X[i]?.getD []) := by
  have hi := h
  unfold jobsL at hi
  rw [jobsTo_len] at hi
  have e : (jobsL X)[i]? = some (mkJ i (X[i]?.getD [])) := by
    show ((List.range (min X.length 12)).map _)[i]? = _
    rw [List.getElem?_map, List.getElem?_range hi]; rfl
  rw [List.getElem?_eq_getElem h] at e; exact Option.some.inj e
theorem lot_inj {X : List (List Int)} {i k : Nat} (hi : i < (jobsL X).length) (hk : k < (jobsL X).length) (h : (jobsL X)[i].lot = (jobsL X)[k].lot) : i = k := by
  have h12 := jobsL_len X
  rw [jobs_at hi, jobs_at hk] at h
  simp only [mkJ] at h
  have hi2 : i < 12 := by omega
  have hk2 : k < 12 := by omega
  omega
theorem job_bd {X : List (List Int)} {j : Jb} (h : j ∈ jobsL X) : 1 ≤ j.len ∧ j.len ≤ 60 ∧ 1 ≤ j.lot ∧ j.lot ≤ 13 ∧ 1 ≤ j.rcp ∧ j.rcp ≤ 3 := by
  obtain ⟨i, hi, rfl⟩ := List.getElem_of_mem h
  rw [jobs_at hi]
  simp only [mkJ]
  have b1 := pickZ_bd (c := (X[i]?.getD [])[0]?.getD 0) (n := 3) (by omega)
  have b5 := pickZ_bd (c := (X[i]?.getD [])[2]?.getD 0) (n := 60) (by omega)
  omega
theorem lenP_bd {X : List (List Int)} {j : Jb} (h : j ∈ jobsL X) (r : Int) : 1 ≤ lenP r j ∧ lenP r j ≤ 80 := by
  have := job_bd h
  unfold lenP; split <;> omega
theorem fits_now {K : Kal.Kal} {t f r : Int} {X : List (List Int)} {j : Jb} (h : j ∈ jobsL X) : fitsP K t f r j = decide (firstK K t f (lenP r j) = some f) := by
  have := job_bd h
  unfold fitsP
  rw [decide_eq_true this.1, decide_eq_true (by omega : j.len ≤ 10000)]; rfl

/-- No job that is ahead of the one that is picked fits; the picked one is of the list and fits. -/
theorem pick_some {K : Kal.Kal} {t f r : Int} {rs : List Int} {J : List Jb} {j : Jb} (hv : validR rs = true) (h : pickP K t f r (orderV rs r J) = some j) :
    j ∈ J ∧ fitsP K t f r j = true ∧ ∀ x ∈ J, Dsp.ahead rs r x j = true → fitsP K t f r x = false := by
  unfold pickP orderV at h
  rw [hv, if_pos rfl] at h
  have hj := List.find?_some h
  have hm := List.mem_of_find?_eq_some h
  refine ⟨(order_perm rs r J).mem_iff.1 hm, hj, fun x hx ha => ?_⟩
  have hx' := (order_perm rs r J).mem_iff.2 hx
  obtain ⟨us, vs, e, hno⟩ := (List.find?_eq_some_iff_append.1 h).2
  have hs := order_sorted rs r J
  rw [e] at hs hx'
  rcases List.mem_append.1 hx' with hx' | hx'
  · have := hno x hx'; simpa using this
  · rcases List.mem_cons.1 hx' with rfl | hx'
    · rw [(swo rs r).irrefl] at ha; cases ha
    · have := (List.pairwise_cons.1 (List.pairwise_append.1 hs).2.1).1 x hx'
      rw [this] at ha; cases ha
theorem pick_none {K : Kal.Kal} {t f r : Int} {rs : List Int} {J : List Jb} (hv : validR rs = true) (h : pickP K t f r (orderV rs r J) = none) : ∀ x ∈ J, fitsP K t f r x = false := by
  unfold pickP orderV at h
  rw [hv, if_pos rfl] at h
  intro x hx
  have := List.find?_eq_none.1 h x ((order_perm rs r J).mem_iff.2 hx)
  simpa using this
theorem bkK_ok (X : List (List Int)) : Kal.Ok (bkK X) := bookAll_ok _
end Go.Proofs.Ytjdhjlhcdpekbaa
