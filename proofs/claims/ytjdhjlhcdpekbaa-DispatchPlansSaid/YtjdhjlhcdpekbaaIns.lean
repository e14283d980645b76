/-
  A booking that is put in among the others, place by place: on paper.
-/
import Derived.Test.YtjdhjlhcdpekbaaOth
namespace Go.Proofs.Ytjdhjlhcdpekbaa
open Go.RowKit Go.Shelf Go.Sort Dsp

structure InsOk (L : List Kal.Bk) (b : Kal.Bk) (p : Nat) (A : List Kal.Bk) : Prop where
  len : A.length = L.length + 1
  le : p ≤ L.length
  here : ∀ h : p < A.length, A[p] = b
  old : ∀ q k, ∀ hq : q < A.length, ∀ hk : k < L.length, q ≠ p → k = (if q ≤ p then q else q - 1) → A[q] = L[k]
  asc : ∀ q, ∀ h : q < A.length, ∀ h2 : q + 1 < A.length, A[q].e ≤ A[q + 1].s
  ne : ∀ q, ∀ h : q < A.length, q ≠ p → A[q].tool = b.tool ∧ A[q].s ≠ b.s
theorem ins_ok {K : Kal.Kal} (hK : Kal.Ok K) {t : Nat} (ht : t < 60) {b : Kal.Bk} (hb : b.tool = (t : Int)) (hf : Kal.free K b = true) : InsOk (K t) b (Kal.fb (K t) b.s) ((Kal.book K b) t) := by
  have e : (Kal.book K b) t = Kal.ins (K t) b := by
    unfold Kal.book; rw [if_pos hf]; unfold Kal.put; rw [if_pos (by rw [hb]; rfl)]
  have hok := hK.book b
  have hsrt := hok.srt t ht
  have hmem := hok.mem t ht
  have hfr := (free_iff.1 hf).2
  have hbs := (Kal.okB_iff.1 (free_iff.1 hf).1).2.2.1
  rw [hb, Int.toNat_natCast] at hfr
  have hle := Kal.fb_le (K t) b.s
  have hol := hK.srt t ht
  generalize hp : Kal.fb (K t) b.s = p at *
  have eA : (Kal.book K b) t = (K t).take p ++ b :: (K t).drop p := by rw [e]; unfold Kal.ins; rw [hp]
  generalize (Kal.book K b) t = A at *
  generalize K t = L at *
  have hlt : (L.take p).length = p := by rw [List.length_take]; omega
  have old : ∀ q k, ∀ hq : q < A.length, ∀ hk : k < L.length, q ≠ p → k = (if q ≤ p then q else q - 1) → A[q] = L[k] := by
    intro q k hq hk hne hkq
    have h1 : A[q]? = L[k]? := by
      rw [eA]
      by_cases h : q < p
      · rw [if_pos (by omega)] at hkq
        subst hkq
        rw [List.getElem?_append_left (by omega), List.getElem?_take_of_lt h]
      · rw [if_neg (by omega)] at hkq
        subst hkq
        obtain ⟨m, rfl⟩ : ∃ m, q = p + 1 + m := ⟨q - (p + 1), by omega⟩
        rw [List.getElem?_append_right (by omega), hlt, show p + 1 + m - p = m + 1 by omega, List.getElem?_cons_succ, List.getElem?_drop]
        congr 1; omega
    rw [List.getElem?_eq_getElem hq, List.getElem?_eq_getElem hk] at h1
    exact Option.some.inj h1
  refine ⟨?_, hle, ?_, old, ?_, ?_⟩
  · rw [eA, List.length_append, List.length_cons, List.length_take, List.length_drop]; omega
  · intro h
    have : A[p]? = some b := by rw [eA, List.getElem?_append_right (by omega), hlt, Nat.sub_self]; rfl
    rw [List.getElem?_eq_getElem h] at this
    exact Option.some.inj this
  · intro q h h2
    exact List.pairwise_iff_getElem.1 hsrt.1 q (q + 1) h h2 (by omega)
  · intro q h hne
    have hAl : A.length = L.length + 1 := by rw [eA, List.length_append, List.length_cons, List.length_take, List.length_drop]; omega
    have hk : (if q ≤ p then q else q - 1) < L.length := by split <;> omega
    have e1 := old q _ h hk hne rfl
    have hm := hmem A[q] (List.getElem_mem h)
    refine ⟨by rw [hb]; exact hm.2, fun es => ?_⟩
    have hx : A[q] ∈ L := by rw [e1]; exact List.getElem_mem hk
    have := hfr _ hx
    have hs := hol.2 _ hx
    omega
/-- Where the old bookings stand. -/
def oldAt (p q : Nat) : Nat := if q ≤ p then q else q - 1
theorem oldAt_succ {p q : Nat} (h : ¬ q = p) : (oldAt p q : Int) + 1 = (oldAt p (q + 1) : Int) := by
  unfold oldAt
  by_cases h1 : q ≤ p
  · rw [if_pos h1, if_pos (by omega)]; omega
  · rw [if_neg h1, if_neg (by omega)]; omega
end Go.Proofs.Ytjdhjlhcdpekbaa
