/-
  The reference's constants: a row of the 64 words.
-/
import Derived.Test.YtbaggjhjkignkaaDoorRefS
namespace Go.Proofs.YtbaggjhjkignkaaDoor
open Go.RowKit Tree

theorem K_row : wordsV Sha.K = Sha.KN.map (fun n : Nat => Value.int .u32 (n : Int)) := by kernel_rfl

set_option maxRecDepth 100000 in
set_option maxHeartbeats 1000000 in
theorem refK_any (w : World) : Calls Tryd.prog 47 #[] w fun e w' => e = .returned (.slice (some ⟨w.heap.size, 0, none⟩) 64 64) ∧ w' = w.alloc (.cells (wordsV Sha.K).toArray 39) := by
  rw [K_row]
  go_enter Tryd.func47, Tryd.ntmps47
  go_wp2_with fail
  go_ret
  exact ⟨rfl, rfl⟩
end Go.Proofs.YtbaggjhjkignkaaDoor

