/-
  A tool that asks again each time it is free: on paper.
-/
import Derived.Test.YtjdhjlhcdpekbaaIns
namespace Go.Proofs.Ytjdhjlhcdpekbaa
open Go.RowKit Go.Shelf Go.Sort Dsp

structure RunOk (A : List Kal.Bk) (m : Nat) (s : Int) : Prop where
  len : A.length = m
  le : ∀ b ∈ A, b.e ≤ s
  s0 : 0 ≤ s
  sm : s ≤ 80 * (m : Int)
  next : ∀ i, ∀ h : i + 1 < A.length, A[i + 1].s = A[i].e
  last : ∀ i, ∀ h : i < A.length, i + 1 = A.length → A[i].e = s
theorem RunOk.nil : RunOk [] 0 0 := ⟨rfl, (fun b h => by cases h), by omega, by omega, (fun i h => by simp at h), fun i h => by simp at h⟩
theorem run_first {K : Kal.Kal} (hK : Kal.Ok K) {t : Nat} (ht : t < 60) {m : Nat} {s : Int} (h : RunOk (K t) m s) {n : Int} (hn : 1 ≤ n) (hsn : s + n ≤ 1000000) : firstK K (t : Int) s n = some s := by
  refine (first_now hK ht hn h.s0 hsn).1.2 ?_
  have hit : Kal.isTool (t : Int) = true := by unfold Kal.isTool; simp; omega
  have ha : Kal.anyHits (K t) s (s + n) = false := Kal.anyHits_false.2 fun b hb => by have := h.le b hb; omega
  unfold busyK Kal.busy; rw [hit, Int.toNat_natCast, ha]; simp
theorem run_book {K : Kal.Kal} (hK : Kal.Ok K) {t : Nat} (ht : t < 60) {m : Nat} {s : Int} (h : RunOk (K t) m s) {n o : Int} (hn : 1 ≤ n) (hn2 : n ≤ 80) (hf : Kal.free K ⟨(t : Int), s, s + n, o⟩ = true) :
    RunOk ((Kal.book K ⟨(t : Int), s, s + n, o⟩) t) (m + 1) (s + n) := by
  have hi := ins_ok hK ht rfl hf
  have hp : Kal.fb (K t) s = m := by
    unfold Kal.fb; rw [← h.len, List.countP_eq_length]; intro b hb; have := h.le b hb; simp; omega
  simp only [hp] at hi
  generalize (Kal.book K ⟨(t : Int), s, s + n, o⟩) t = A at *
  have hl : A.length = m + 1 := by rw [hi.len, h.len]
  have old : ∀ q, ∀ hq : q < m, A[q]'(by omega) = (K t)[q]'(by rw [h.len]; exact hq) := fun q hq => hi.old q q (by omega) (by rw [h.len]; exact hq) (by omega) (by rw [if_pos (by omega)])
  have here := hi.here (by omega)
  have hs0 := h.s0; have hsm := h.sm
  refine ⟨hl, fun b hb => ?_, by omega, by omega, fun i h2 => ?_, fun i h2 e => ?_⟩
  · obtain ⟨q, hq, rfl⟩ := List.getElem_of_mem hb
    by_cases hqm : q < m
    · rw [old q hqm]; have := h.le _ (List.getElem_mem (by rw [h.len]; exact hqm)); omega
    · obtain rfl : q = m := by omega
      rw [here]; exact Int.le_refl _
  · by_cases hqm : i + 1 < m
    · rw [old (i + 1) hqm, old i (by omega)]; exact h.next i (by rw [h.len]; exact hqm)
    · obtain rfl : m = i + 1 := by omega
      rw [here, old i (by omega)]; exact (h.last i (by rw [h.len]; omega) (by rw [h.len])).symm
  · obtain rfl : i = m := by omega
    rw [here]
/-- The jobs of another lot. -/
def filJ (J : List Jb) (q : Int) (k : Nat) : List Jb := (J.take k).filter (fun x => !decide (x.lot = q))
theorem filJ_succ {J : List Jb} {q : Int} {k : Nat} (h : k < J.length) : filJ J q (k + 1) = filJ J q k ++ (if J[k].lot = q then [] else [J[k]]) := by
  unfold filJ; rw [List.take_succ_eq_append_getElem h, List.filter_append]
  by_cases e : J[k].lot = q <;> simp [e]
theorem filJ_len {q : Int} : ∀ {J : List Jb}, (J.map Jb.lot).Nodup → (∃ j ∈ J, j.lot = q) → (filJ J q J.length).length + 1 = J.length
  | [], _, h => by obtain ⟨j, h, -⟩ := h; cases h
  | x :: J, hn, h => by
    rw [List.map_cons, List.nodup_cons] at hn
    obtain ⟨hx, hn⟩ := hn
    unfold filJ
    rw [List.take_length]
    by_cases e : x.lot = q
    · have h1 : J.filter (fun x => !decide (x.lot = q)) = J := List.filter_eq_self.2 fun y hy => by
        have : y.lot ≠ q := fun e2 => hx (by rw [e, ← e2]; exact List.mem_map_of_mem hy)
        simp [this]
      rw [List.filter_cons_of_neg (by simp [e]), h1]; rfl
    · have h2 := filJ_len (q := q) hn (by
        obtain ⟨j, hj, hq⟩ := h
        rcases List.mem_cons.1 hj with rfl | hj
        · exact absurd hq e
        · exact ⟨j, hj, hq⟩)
      unfold filJ at h2
      rw [List.take_length] at h2
      rw [List.filter_cons_of_pos (by simp [e]), List.length_cons, List.length_cons]; omega
theorem filJ_nodup {J : List Jb} {q : Int} (hn : (J.map Jb.lot).Nodup) : ((filJ J q J.length).map Jb.lot).Nodup := by
  unfold filJ; rw [List.take_length]
  exact hn.sublist ((List.filter_sublist).map _)
theorem filJ_mem {J : List Jb} {q : Int} {k : Nat} {j : Jb} (h : j ∈ filJ J q k) : j ∈ J := by
  unfold filJ at h; exact List.mem_of_mem_take (List.mem_filter.1 h).1
theorem jobsL_nodup (X : List (List Int)) : ((jobsL X).map Jb.lot).Nodup := by
  rw [List.Nodup, List.pairwise_iff_getElem]
  intro i k hi hk hik e
  rw [List.length_map] at hi hk
  rw [List.getElem_map, List.getElem_map] at e
  exact absurd (lot_inj hi hk e) (by omega)
theorem run_pick {X : List (List Int)} {K : Kal.Kal} (hK : Kal.Ok K) {t : Nat} (ht : t < 60) {m : Nat} {s r : Int} (h : RunOk (K t) m s) (hm : m ≤ 12) {J : List Jb} (hJ : ∀ j ∈ J, j ∈ jobsL X) (h0 : 0 < J.length) {rs : List Int} (hv : validR rs = true) :
    ∃ j, pickP K (t : Int) s r (orderV rs r J) = some j ∧ j ∈ J ∧ (1 ≤ lenP r j ∧ lenP r j ≤ 80) ∧ Kal.free K ⟨(t : Int), s, s + lenP r j, j.lot⟩ = true ∧ 1 ≤ j.rcp ∧ j.rcp ≤ 3 ∧ 1 ≤ j.lot ∧ j.lot ≤ 13 ∧ 1 ≤ j.len ∧ j.len ≤ 60 := by
  have hs0 := h.s0; have hsm := h.sm
  cases e : pickP K (t : Int) s r (orderV rs r J) with
  | none =>
    have hx := List.getElem_mem h0
    have := pick_none hv e _ hx
    have hb := lenP_bd (hJ _ hx) r
    rw [fits_now (hJ _ hx), run_first hK ht h hb.1 (by omega)] at this
    simp at this
  | some j =>
    obtain ⟨hj, -, -⟩ := pick_some hv e
    have hb := lenP_bd (hJ _ hj) r
    have hd := job_bd (hJ _ hj)
    exact ⟨j, rfl, hj, hb, (first_now hK ht hb.1 hs0 (by omega)).2 (run_first hK ht h hb.1 (by omega)) _ (by omega) (by omega), by omega, by omega, by omega, by omega, by omega, by omega⟩
end Go.Proofs.Ytjdhjlhcdpekbaa
