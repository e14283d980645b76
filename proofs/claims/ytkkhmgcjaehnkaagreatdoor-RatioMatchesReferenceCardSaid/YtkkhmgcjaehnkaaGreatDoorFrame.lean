/-
  What the rows of layer 3 share: the table and the errors read off the row's condition, and a start at which the condition holds.
-/
import Derived.Test.YtkkhmgcjaehnkaaGreatDoorRows
import Derived.Test.YtkkhmgcjaehnkaaGreatDoorCards
import Derived.Test.YtkkhmgcjaehnkaaGreatDoorTie
import Derived.Test.YtkkhmgcjaehnkaaGreatDoorLibs
import Derived.ProofKit
import Derived.LaidMore
import Derived.OpenShut
import Derived.ShutString
import Derived.ChangeOld
import Derived.Stop.Joined
import Derived.Stop.LaidErr
import Derived.SevenTiedAt
import Derived.Lib.LaidTab
namespace Go.Proofs.YtkkhmgcjaehnkaaGreatDoor
open Go.ChangeShapes Go.WideShapes Go.ChangeAt Go.RowKit Go.Shelf

theorem own : ownKnob Tryz.prog.godebug = none := by kernel_rfl
theorem laidOut : laidOutB Tryz.prog = true := by kernel_rfl
theorem tPow : (Tryz.prog.globals[4]?).map (·.type) = some 105 := by kernel_rfl
theorem gNone : Tryz.prog.globalNamed "cleanroom/ratio.errNone" = some 0 := by kernel_rfl
theorem tNone : (Tryz.prog.globals[0]?).map (·.type) = some 50 := by kernel_rfl
theorem gSyn : Tryz.prog.globalNamed "strconv.ErrSyntax" = some 2 := by kernel_rfl
theorem tSyn : (Tryz.prog.globals[2]?).map (·.type) = some 50 := by kernel_rfl
theorem gRng : Tryz.prog.globalNamed "strconv.ErrRange" = some 3 := by kernel_rfl
theorem tRng : (Tryz.prog.globals[3]?).map (·.type) = some 50 := by kernel_rfl
theorem star : "*" ++ "errors.errorString" = "*errors.errorString" := by decide
theorem rowErr (u : TypeId) (h : Tryz.prog.typeName? 3 u = some "*errors.errorString") : u = 111 :=
  typeName_ptr_named (nm := "errors.errorString") (by rw [star]; kernel_rfl) (by kernel_rfl) (by decide) u (by rw [star]; exact h)
theorem cellsErr : Tryz.prog.cellsOf 113 = 1 := by kernel_rfl
theorem cellsStr : Tryz.prog.cellsOf 9 = 1 := by kernel_rfl

abbrev laidList : List (String × DataW Unit) := [("math/bits.deBruijn32tab", Rows.laid_math_bits_deBruijn32tab), ("math/bits.deBruijn64tab", Rows.laid_math_bits_deBruijn64tab), ("internal/strconv.uint64pow10", Rows.laid_internal_strconv_uint64pow10), ("strconv.ErrRange", Rows.laid_strconv_ErrRange), ("strconv.ErrSyntax", Rows.laid_strconv_ErrSyntax), ("cleanroom/ratio.errNone", Rows.laid_cleanroom_ratio_errNone)]

/-- The heap that the program's own initialisers leave meets the rows' condition. -/
theorem door_met (os : Os) (args : Array Value) : laidMetH Tryz.prog laidList ((World.doorLaid Tryz.prog 400 os).forCall (fun _ _ => 0) ⟨#[], args, []⟩).memory :=
  laidMetH_of_parts3 (fuel := 8) (laidMet_of_run' 8 (by kernel_rfl) (by kernel_rfl)) (by kernel_rfl) (by kernel_rfl)

/-- What the condition gives the walks. -/
theorem tab_of_laid {W : World} (h : laidMetH Tryz.prog laidList W) : ∃ a, Tab a W := by
  rw [MakeChecks.laidMetH_plain _ _ _ (by kernel_rfl)] at h
  have ht : Lib.TabIs Tryz.prog W "internal/strconv.uint64pow10" .u64 Lib.pow10Tab :=
    Lib.tabIs_of_head gPow tPow Tryz.underlying105 Tryz.underlying44 (by kernel_rfl) (by kernel_rfl) h.tail.tail
  obtain ⟨a1, s1, hv1, -, -, -⟩ := laid_sentinel h.tail.tail.tail gRng tRng Tryz.underlying50 rowErr Tryz.underlying111 Tryz.underlying113 rfl rfl Tryz.underlying9 cellsErr cellsStr
  obtain ⟨a2, s2, hv2, -, -, -⟩ := laid_sentinel h.tail.tail.tail.tail gSyn tSyn Tryz.underlying50 rowErr Tryz.underlying111 Tryz.underlying113 rfl rfl Tryz.underlying9 cellsErr cellsStr
  obtain ⟨a3, s3, hv3, -, -, -⟩ := laid_sentinel h.tail.tail.tail.tail.tail gNone tNone Tryz.underlying50 rowErr Tryz.underlying111 Tryz.underlying113 rfl rfl Tryz.underlying9 cellsErr cellsStr
  have c1 : W.cell? ⟨3, 0, none⟩ = some (.iface 111 (.pointer (some a1))) := by have h0 := World.var?_cell gRng hv1 0; simpa using h0
  have c2 : W.cell? ⟨2, 0, none⟩ = some (.iface 111 (.pointer (some a2))) := by have h0 := World.var?_cell gSyn hv2 0; simpa using h0
  have c3 : W.cell? ⟨0, 0, none⟩ = some (.iface 111 (.pointer (some a3))) := by have h0 := World.var?_cell gNone hv3 0; simpa using h0
  exact ⟨a3, ⟨World.block_lt_of_cell? W _ c3, c3⟩, ht, ⟨_, _, c2⟩, ⟨_, _, c1⟩⟩
end Go.Proofs.YtkkhmgcjaehnkaaGreatDoor
