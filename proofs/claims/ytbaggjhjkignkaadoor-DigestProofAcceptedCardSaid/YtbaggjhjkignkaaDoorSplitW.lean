/-
  The walk of DigestSplit: it returns true for all arguments. Condition: the table of 64 words reads as the program's text lays it.
-/
import Derived.Test.YtbaggjhjkignkaaDoorExtAcc
namespace Go.Proofs.YtbaggjhjkignkaaDoor
open Go.RowKit Go.Shelf Tree

theorem StrA.news {w : World} {ad : Addr} {c : Nat} {L : List ByteArray} (h : StrA w (some ad) c L) : ∀ j u, (strV L)[j]? = some u → w.cell? (ad.add j) = some u := by
  intro j u hu
  have hj : j < L.length := by
    have := (List.getElem?_eq_some_iff.1 hu).1
    unfold strV at this
    rwa [List.length_map] at this
  obtain ⟨b, off, e, _⟩ := h.2.2 j hj
  cases e
  exact StrA.cells h j u hu
theorem append_none (w : World) (g c : Nat) (ty : TypeId) : (Builtin.append_ #[26, 26] ty #[.slice (some ⟨g, 0, none⟩) 0 0, .slice none 0 c]).run Tryd.prog w = .ok (.slice (some ⟨g, 0, none⟩) 0 0) w := by
  obtain ⟨i0, hi0, hz0, hz1, hz2⟩ := info_parts info_string
  simp [Builtin.append_, run_underlying Tryd.underlying26, sizeOf, typeInfo, hi0, Builtin.lenOf, run_firstCells_none, storeCells]
theorem TwoAt.tab {w V : World} {a b : Option Addr} {c d : Nat} {P Q : List ByteArray} (h : TwoAt w a c P b d Q V) : Tab V := h.1
theorem TwoAt.bel {w V : World} {a b : Option Addr} {c d : Nat} {P Q : List ByteArray} (h : TwoAt w a c P b d Q V) : Below w.heap.size w V := h.2.2.2
theorem ext_len_le (L : List ByteArray) (k : Nat) (hk : k ≤ L.length) : L.length < 1000 → (extS Sha.shaS L k).length < 1000 := fun h => by
  have h1 := (ext_accepted L k hk).2
  have h2 := binS_le 10 L.length (by omega)
  omega

end Go.Proofs.YtbaggjhjkignkaaDoor

