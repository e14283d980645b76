/-
  What the rows of layer 9 share: the table read off the row's condition, and a start at which the condition holds.
-/
import Derived.Test.YtihohjgjklcnlaaDoorQCd9
import Derived.Test.YtihohjgjklcnlaaDoorCards
import Derived.Test.YtihohjgjklcnlaaDoorTie
import Derived.Test.YtihohjgjklcnlaaDoorQBo1
import Derived.LaidMore
import Derived.SevenTiedAt
import Derived.Lib.LaidTab
namespace Go.Proofs.YtihohjgjklcnlaaDoor
open Go.ChangeShapes Go.WideShapes Go.ChangeAt Go.RowKit
theorem gTab : Tryd.prog.globalNamed "cleanroom/digest.roundWords" = some 0 := by kernel_rfl
theorem tTab : (Tryd.prog.globals[0]?).map (·.type) = some 175 := by kernel_rfl
abbrev laidList : List (String × DataW Unit) := [("cleanroom/digest.roundWords", Rows.laid_cleanroom_digest_roundWords)]
/-- The heap that the program's own initialisers leave meets the rows' condition. -/
theorem door_met (os : Os) (args : Array Value) : laidMetH Tryd.prog laidList ((World.doorLaid Tryd.prog 400 os).forCall (fun _ _ => 0) ⟨#[], args, []⟩).memory :=
  laidMetH_of_parts3 (fuel := 8) (laidMet_of_run' 8 (by kernel_rfl) (by kernel_rfl)) (by kernel_rfl) (by kernel_rfl)
set_option maxRecDepth 100000 in
theorem zs_at : ∀ i : Fin 64, (Wb.Sha.KN.map fun n : Nat => (n : Int)).getD i.val 0 = Wb.wv (Wb.Sha.K.getD i.val 0) := by decide
/-- What the condition gives the walks. -/
theorem tab_of_laid {W : World} (h : laidMetH Tryd.prog laidList W) : Wb.Tab W := by
  rw [MakeChecks.laidMetH_plain _ _ _ (by kernel_rfl)] at h
  have ht : Lib.TabIs Tryd.prog W "cleanroom/digest.roundWords" .u32 (Wb.Sha.KN.map fun n : Nat => (n : Int)) :=
    Lib.tabIs_of_head (rest := []) gTab tTab Tryd.underlying175 Tryd.underlying103 (by kernel_rfl) (by kernel_rfl) h
  have hc : ∀ i, i < 64 → W.cell? ⟨0, i, none⟩ = some (.int .u32 (Wb.wv (Wb.Sha.K.getD i 0))) := fun i hi => by
    have e := ht.cell gTab i (by simpa [Wb.Sha.KN] using hi)
    rw [zs_at ⟨i, hi⟩] at e
    exact e
  refine ⟨?_, hc⟩
  have h0 := hc 0 (by omega)
  unfold World.cell? at h0
  cases e : W.heap[0]? with
  | none => simp [e] at h0
  | some o => exact (Array.getElem?_eq_some_iff.1 e).1
end Go.Proofs.YtihohjgjklcnlaaDoor
