/-
  The walk of CalendarFirst.
-/
import Derived.Test.YtjdhjlhcdpekbaaSane
namespace Go.Proofs.Ytjdhjlhcdpekbaa
open Go.RowKit Go.Shelf

theorem bookAll_ok (L : List Kal.Bk) : Kal.Ok (bookAll L) := by
  unfold bookAll
  have : ∀ (L : List Kal.Bk) (K : Kal.Kal), Kal.Ok K → Kal.Ok (L.foldl Kal.book K) := by
    intro L
    induction L with
    | nil => intro K h; exact h
    | cons b L ih => intro K h; exact ih _ (h.book b)
  exact this L _ Kal.Ok.empty
theorem mem_book {K : Kal.Kal} {b x : Kal.Bk} {i : Nat} (h : x ∈ Kal.book K b i) : x = b ∨ x ∈ K i := by
  unfold Kal.book at h
  split at h
  · unfold Kal.put at h
    split at h
    · exact Kal.mem_ins.1 h
    · exact .inr h
  · exact .inr h
theorem mem_bookAll {L : List Kal.Bk} {x : Kal.Bk} {i : Nat} (h : x ∈ bookAll L i) : x ∈ L := by
  have : ∀ (L : List Kal.Bk) (K : Kal.Kal), x ∈ L.foldl Kal.book K i → x ∈ L ∨ x ∈ K i := by
    intro L
    induction L with
    | nil => intro K h; exact .inr h
    | cons b L ih =>
      intro K h
      rcases ih _ h with h | h
      · exact .inl (by simp [h])
      · rcases mem_book h with h | h
        · exact .inl (by simp [h])
        · exact .inr h
  rcases this L _ h with h | h
  · exact h
  · cases h
theorem some_is {W w : World} (X : List (List Int)) (a : Option Addr) (c : Nat) (h : ArrsA 4 W a c X) (hb : Below W.heap.size W w) : Calls Try.prog 14 #[.slice a X.length c] w fun e w' => ∃ v, e = .returned v ∧ BkOwn w' W.heap.size v (someL X) ∧ Below w.heap.size w w' ∧ Below W.heap.size W w' :=
  (refSome_any X a c w (h.below hb)).mono fun _ _ ⟨v, h1, h2, h3⟩ => ⟨v, h1, h2.mono hb.size, h3, hb.trans (h3.mono hb.size)⟩

/-- What First tells of the bookings of integers. -/
theorem first_none {K : Kal.Kal} (hK : Kal.Ok K) {i : Nat} (hi : i < 60) (h340 : ∀ b ∈ K i, b.e ≤ 340) {f n : Int} (hn : 1 ≤ n ∧ n ≤ 60) (hf : (0 ≤ f ∧ f < 400) ∨ (999920 < f ∧ f ≤ 1000000)) (h : Kal.first (K i) f n = none) : 1000000 < f + n := by
  have hs := Kal.first_is (f := f) (n := n) (hK.srt i hi) (fun b hb => by have := h340 b hb; omega) hn.1
  rw [h] at hs
  apply Classical.byContradiction
  intro hc
  have hf0 := hf
  have := hs (max f 340) (by omega) (by omega)
  obtain ⟨b, hb, h1, h2⟩ := Kal.anyHits_true.1 this
  have := h340 b hb
  omega
theorem first_some {K : Kal.Kal} (hK : Kal.Ok K) {i : Nat} (hi : i < 60) {f n t : Int} (hn : 1 ≤ n) (hf : 0 ≤ f) (h : Kal.first (K i) f n = some t) :
    f ≤ t ∧ t + n ≤ 1000000 ∧ busyK K (i : Int) t (t + n) = false ∧ (∀ s, f ≤ s → s < t → busyK K (i : Int) s (s + n) = true) ∧ Kal.free K ⟨i, t, t + n, 9⟩ = true := by
  have hs := Kal.first_is (f := f) (n := n) (hK.srt i hi) (fun b hb => (Kal.okB_iff.1 (hK.mem i hi b hb).1).2.2.2.1) hn
  rw [h] at hs
  obtain ⟨h1, h2, h3, h4⟩ := hs
  have hf0 := hf
  have ht : Kal.isTool (i : Int) = true := by unfold Kal.isTool; simp; omega
  have hb : ∀ s, Kal.busy (K i) s (s + n) = Kal.anyHits (K i) s (s + n) := fun s => by unfold Kal.busy; rw [decide_eq_true (by omega), Bool.true_and]
  refine ⟨h1, h2, ?_, fun s h5 h6 => ?_, ?_⟩
  · unfold busyK; rw [ht, Int.toNat_natCast, hb, h3]; rfl
  · unfold busyK; rw [ht, Int.toNat_natCast, hb, h4 s h5 h6]; rfl
  · unfold Kal.free
    rw [Kal.okB_iff.2 ⟨by simp only; omega, by simp only; omega, by simp only; omega, by simp only; omega, by simp only; omega, by simp only; omega⟩]
    simp only [Int.toNat_natCast]
    rw [hb, h3]; rfl

end Go.Proofs.Ytjdhjlhcdpekbaa

