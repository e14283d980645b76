/-
  CycleDual.
-/
import Derived.Test.YtiolmcnngpaapaaHd
namespace Go.Proofs.Ytiolmcnngpaapaa
open Go.RowKit Go.Shelf Cy

/-- What Levels' lists are worth: Ok, or a cycle. -/
theorem dual_facts {n : Nat} {p : Int} {L : List Arc} (hv : valid (n : Int) L = true) (hp : isPer p = true) (hn : n ≤ 7) (hL : L.length ≤ 40) :
    verB (n : Int) p L (lvS (n : Int) p L) = lvB (n : Int) p L ∧ refB (n : Int) p L (natsI (lvC (n : Int) p L)) = !(lvB (n : Int) p L) ∧ (lvB (n : Int) p L = true ∨ ∀ m, verB (n : Int) p L m = false) := by
  have hG := valid_good hv hp
  cases h : starts p L n with
  | some s =>
    obtain ⟨e1, e2, e3⟩ := lv_some hv hp h
    obtain ⟨s1, s2, s3, s4⟩ := starts_is hG h
    rw [e1, e2, e3]
    exact ⟨ver_of hv hp s1 s2 ((starts_bd hG h hn hL).mono (by omega)), ref_nil _ _ _, .inl rfl⟩
  | none =>
    obtain ⟨e1, e2, e3⟩ := lv_nil hv hp h
    rw [e1, e2, e3]
    exact ⟨not_ver hv hp h _, ref_of hv hp h, .inr (not_ver hv hp h)⟩
end Go.Proofs.Ytiolmcnngpaapaa

