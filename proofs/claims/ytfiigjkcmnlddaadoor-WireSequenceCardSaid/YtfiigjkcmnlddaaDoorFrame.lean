/-
  What the rows of layer 1 share: the table read off the row's condition, and a start at which the condition holds.
-/
import Derived.Test.YtfiigjkcmnlddaaDoorRows
import Derived.Test.YtfiigjkcmnlddaaDoorCards
import Derived.Test.YtfiigjkcmnlddaaDoorTie
import Derived.Test.YtfiigjkcmnlddaaDoorSum
import Derived.ProofKit
import Derived.LaidMore
import Derived.OpenShut
import Derived.ShutString
import Derived.ChangeOld
import Derived.Stop.Joined
import Derived.SevenTiedAt
import Derived.Lib.LaidTab
namespace Go.Proofs.YtfiigjkcmnlddaaDoor
open Go.ChangeShapes Go.WideShapes Go.ChangeAt Go.RowKit

theorem own : ownKnob Tryd.prog.godebug = none := by kernel_rfl
theorem laidOut : laidOutB Tryd.prog = true := by kernel_rfl
theorem gTab : Tryd.prog.globalNamed "cleanroom/wire.quarters" = some 0 := by kernel_rfl
theorem tTab : (Tryd.prog.globals[0]?).map (·.type) = some 55 := by kernel_rfl

abbrev laidList : List (String × DataW Unit) := [("cleanroom/wire.quarters", Rows.laid_cleanroom_wire_quarters)]

/-- The heap that the program's own initialisers leave meets the rows' condition. -/
theorem door_met (os : Os) (args : Array Value) : laidMetH Tryd.prog laidList ((World.doorLaid Tryd.prog 400 os).forCall (fun _ _ => 0) ⟨#[], args, []⟩).memory :=
  laidMetH_of_parts3 (fuel := 8) (laidMet_of_run' 8 (by kernel_rfl) (by kernel_rfl)) (by kernel_rfl) (by kernel_rfl)

theorem zs_at : ∀ i : Fin 16, (Crc.tab.map fun n : Nat => (n : Int)).getD i.val 0 = ((Crc.tab.getD i.val 0 : Nat) : Int) := by decide

/-- What the condition gives the walks. -/
theorem tab_of_laid {W : World} (h : laidMetH Tryd.prog laidList W) : Tab W := by
  rw [MakeChecks.laidMetH_plain _ _ _ (by kernel_rfl)] at h
  have ht : Lib.TabIs Tryd.prog W "cleanroom/wire.quarters" .u32 (Crc.tab.map fun n : Nat => (n : Int)) :=
    Lib.tabIs_of_head (rest := []) gTab tTab Tryd.underlying55 Tryd.underlying43 (by kernel_rfl) (by kernel_rfl) h
  have hc : ∀ i, i < 16 → W.cell? ⟨0, i, none⟩ = some (.int .u32 ((Crc.tab.getD i 0 : Nat) : Int)) := fun i hi => by
    have e := ht.cell gTab i (by simpa [Crc.tab] using hi)
    rw [zs_at ⟨i, hi⟩] at e
    exact e
  refine ⟨?_, hc⟩
  have h0 := hc 0 (by omega)
  unfold World.cell? at h0
  cases e : W.heap[0]? with
  | none => simp [e] at h0
  | some o => exact (Array.getElem?_eq_some_iff.1 e).1
end Go.Proofs.YtfiigjkcmnlddaaDoor
