/-
  The contract of First for all arguments.
-/
import Derived.Test.YtjdhjlhcdpekbaaFirst
namespace Go.Proofs.Ytjdhjlhcdpekbaa
open Go.RowKit Go.Shelf

/-- The first free time of a tool. -/
def firstK (K : Kal.Kal) (t f n : Int) : Option Int := if Kal.isTool t = true ∧ 1 ≤ n then Kal.first (K t.toNat) (max f 0) n else none
theorem First_nil (t f n : Int) (w : World) : Calls Try.prog 48 #[.pointer none, .int .i64 t, .int .i64 f, .int .i64 n] w (FirstPost none w) := by
  go_enter Try.func48, Try.ntmps48
  go_wp2_with fail
  refine (isNil_nil _).mono ?_; rintro _ w1 ⟨rfl, rfl⟩
  go_wp2_with fail
  refine bodyPost_ret (v := firstV none) (by simp [results, Try.results48, go_sem, firstV]) rfl ⟨rfl, ?_⟩
  exact (((Below.refl _ w).alloc (Nat.le_refl _) _).alloc (by simp) _).alloc (by simp; omega) _
theorem First_bad {B : Nat} {c : CalP} {K : Kal.Kal} {w : World} (t f n : Int) (h : CalAt B c K w) (ht : Kal.isTool t = false ∨ (Kal.isTool t = true ∧ n < 1)) :
    Calls Try.prog 48 #[c.ptr, .int .i64 t, .int .i64 f, .int .i64 n] w (FirstPost none w) := by
  have hb : Below w.heap.size w (((w.alloc (.cells #[.int .i64 n] 3)).alloc (.cells #[.int .i64 0] 3)).alloc (.cells #[.bool false] 4)) := (((Below.refl _ w).alloc (Nat.le_refl _) _).alloc (by simp) _).alloc (by simp; omega) _
  have HN := Lib.hid (isNil_no (h.below hb))
  have HB := Lib.hid hb
  have HT := Lib.hid (fun W => isTool_any t W)
  clear h hb
  rcases ht with ht | ⟨ht, hn⟩
  · rw [ht] at HT
    clear ht
    go_enter Try.func48, Try.ntmps48
    go_wp2_with fail
    refine HN.out.mono ?_; rintro _ w1 ⟨rfl, rfl⟩
    go_wp2_with fail
    refine (HT.out _).mono ?_; rintro _ w1 ⟨rfl, rfl⟩
    go_wp2_with fail
    refine bodyPost_ret (v := firstV none) (by simp [results, Try.results48, go_sem, firstV]) rfl ⟨rfl, ?_⟩
    exact HB.out
  · rw [ht] at HT
    have hn' : decide (n < 1) = true := decide_eq_true hn
    clear ht
    go_enter Try.func48, Try.ntmps48
    go_wp2_with fail
    refine HN.out.mono ?_; rintro _ w1 ⟨rfl, rfl⟩
    go_wp2_with fail
    refine (HT.out _).mono ?_; rintro _ w1 ⟨rfl, rfl⟩
    go_wp2_with fail
    refine bodyPost_ret (v := firstV none) (by simp [results, Try.results48, go_sem, firstV]) rfl ⟨rfl, ?_⟩
    exact HB.out
theorem First_any {B : Nat} {c : CalP} {K : Kal.Kal} {w : World} (t f n : Int) (h : CalAt B c K w) (hf : Fits f) (hn : Fits n) :
    Calls Try.prog 48 #[c.ptr, .int .i64 t, .int .i64 f, .int .i64 n] w (FirstPost (firstK K t f n) w) := by
  unfold firstK
  cases ht : Kal.isTool t with
  | false => rw [if_neg (fun h => by cases h.1)]; exact First_bad t f n h (.inl ht)
  | true =>
    by_cases h1 : 1 ≤ n
    · rw [if_pos ⟨rfl, h1⟩]
      unfold Kal.isTool at ht
      simp only [Bool.and_eq_true, decide_eq_true_eq] at ht
      obtain ⟨k, rfl⟩ : ∃ k : Nat, t = k := ⟨t.toNat, by omega⟩
      exact First_yes k f n h (by omega) hf h1 hn.2
    · rw [if_neg (fun h => h1 h.2)]; exact First_bad t f n h (.inr ⟨ht, by omega⟩)
end Go.Proofs.Ytjdhjlhcdpekbaa

