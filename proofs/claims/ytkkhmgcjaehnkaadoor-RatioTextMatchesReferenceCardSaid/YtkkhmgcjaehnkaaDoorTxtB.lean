/-
  What the walks of RatioText share: the text of a fraction is parsed into it, and Clamp gives a number between its limits.
-/
import Derived.Test.YtkkhmgcjaehnkaaDoorPairs
namespace Go.Proofs.YtkkhmgcjaehnkaaDoor
open Go.RowKit Go.Shelf

theorem parse_ok {S : ByteArray} {p q : Int} (h : Ra.parse S.data.toList = some (p, q)) : Ra.Ok p q ∧ txtB p q = S := by
  obtain ⟨h1, h2⟩ := Ra.parse_iff.1 h
  refine ⟨h1, ?_⟩
  have : (txtB p q).data.toList = S.data.toList := h2
  cases S with | mk D => cases D with | mk l => simp_all [txtB]
theorem Parse_some {S : ByteArray} {p q : Int} {a : Addr} (h : Ra.parse S.data.toList = some (p, q)) (hs : S.size ≤ 60) : ∀ w, Tab a w →
    Calls Tryd.prog 9 #[.string S] w fun e w' => e = .returned (.tuple #[ratV p q, .int .i64 0]) ∧ Below w.heap.size w w' := fun w ht => by
  have := Parse_any S w a ht (by omega)
  rw [h] at this; exact this
theorem Parse_none {S : ByteArray} {a : Addr} (h : Ra.parse S.data.toList = none) (hs : S.size ≤ 60) : ∀ w, Tab a w →
    Calls Tryd.prog 9 #[.string S] w fun e w' => e = .returned (.tuple #[ratV 0 0, .int .i64 30]) ∧ Below w.heap.size w w' := fun w ht => by
  have := Parse_any S w a ht (by omega)
  rw [h] at this; exact this
theorem Print_some {n d : Int} {S : ByteArray} {a : Addr} (ho : Ra.Ok n d) (h : txtB n d = S) : ∀ w, Tab a w →
    Calls Tryd.prog 6 #[ratV n d] w fun e w' => e = .returned (.tuple #[.string S, .int .i64 0]) ∧ Below w.heap.size w w' := fun w ht => by
  have := Print_yes n d w a ht ho
  rw [h] at this; exact this
theorem Print_zero : ∀ w, Calls Tryd.prog 6 #[ratV 0 0] w fun e w' => e = .returned (.tuple #[.string ⟨#[]⟩, .int .i64 30]) ∧ Below w.heap.size w w' := fun w =>
  Print_no 0 0 w ⟨⟨by omega, by omega⟩, ⟨by omega, by omega⟩⟩ fun h => by have := h.1; omega
theorem Clamp_at {an ad ln ld hn hd cn cd : Int} (h : clampR an ad ln ld hn hd = (cn, cd)) (fa : Fits an ∧ Fits ad) (fl : Fits ln ∧ Fits ld) (fh : Fits hn ∧ Fits hd) : ∀ w,
    Calls Tryd.prog 12 #[ratV an ad, ratV ln ld, ratV hn hd] w fun e w' => e = .returned (ratV cn cd) ∧ Below w.heap.size w w' := fun w => by
  have := Clamp_any an ad ln ld hn hd w fa fl fh
  rw [h] at this; exact this
theorem text_again {n d : Int} {S : ByteArray} (ho : Ra.Ok n d) (h : txtB n d = S) : Ra.parse S.data.toList = some (n, d) ∧ S.size ≤ 60 := by
  have e : S.data.toList = Ra.txt n d := by subst h; rfl
  refine ⟨Ra.parse_iff.2 ⟨ho, e.symm⟩, ?_⟩
  have := Ra.txt_len ho
  have hl : S.size = S.data.toList.length := by rw [Array.length_toList]; rfl
  rw [hl, e]; omega
end Go.Proofs.YtkkhmgcjaehnkaaDoor
