/-
  The law file's cut.
-/
import Derived.Test.YtnmjcjkjdbkpnaaDoorSn
namespace Go.Proofs.YtnmjcjkjdbkpnaaDoor
open Go.RowKit Go.Shelf Fc
attribute [local go_sem] Oper.semAt_some
/-- A text's beginning. -/
def cutT (n : Nat) (t : ByteArray) : ByteArray := t.extract 0 (min (t.size : Int) (n : Int)).toNat
def cutF (F : Fact) : Fact := { F with tx := cutT 8200 F.tx }
theorem cutT_size (n : Nat) (t : ByteArray) : (cutT n t).size ≤ n := by unfold cutT; rw [ByteArray.size_extract]; omega
theorem cutF_max (F : Fact) : (cutF F).tx.size ≤ maxLen := by have := cutT_size 8200 F.tx; unfold cutF maxLen; simp only; omega
def CutPost (F : Fact) (w : World) (e : Ending) (w' : World) : Prop := e = .returned (factV (cutF F)) ∧ Below w.heap.size w w'
set_option maxRecDepth 100000 in
set_option maxHeartbeats 4000000 in
theorem cut_any (F : Fact) (w : World) (hs : F.tx.size ≤ maxLen) : Calls Tryd.prog 13 #[factV F] w (CutPost F w) := by
  obtain ⟨W2, hW2⟩ : ∃ V, (w.alloc (factObj F)).alloc fc0 = V := ⟨_, rfl⟩
  have HB := Lib.hid (show Below w.heap.size w W2 from by rw [← hW2]; exact below_step (below_new _ _) (below_new _ _))
  have HF := Lib.hid (show W2.heap[w.heap.size]? = some (factObj F) from by rw [← hW2]; exact box_below (heap_alloc_new _ _) (below_new _ _))
  have HR := Lib.hid (show W2.heap[w.heap.size + 1]? = some fc0 from by
    rw [← hW2]
    have := heap_alloc_new (w.alloc (factObj F)) fc0
    rwa [World.size_alloc] at this)
  unfold maxLen at hs
  go_enter Tryd.func13, Tryd.ntmps13
  go_upto_region 1 with (fail)
  clear hW2
  have c18 := box_cell HF.out 18 (.string F.tx) rfl
  have z18 := box_fz HF.out 18
  have l18 := lt_of_block HF.out
  have HF2 := Lib.hid (show (W2.setCell ⟨w.heap.size, 18, none⟩ (.string (cutT 8200 F.tx))).heap[w.heap.size]? = some (factObj (cutF F)) from block_set HF.out (o := 18) _)
  have HC := one_ch W2 w.heap.size 18 (.string (cutT 8200 F.tx))
  have HR2 := Lib.hid ((HC.block _ (lt_of_block HR.out) (by omega)).trans HR.out)
  have HB2 := Lib.hid (HB.out.trans (HC.below (B := w.heap.size) (Nat.le_of_lt l18) (fun k e => by omega)))
  have HCt := Lib.hid (show cutT 8200 F.tx = F.tx.extract 0 (min (F.tx.size : Int) ((8200 : Nat) : Int)).toNat from rfl)
  clear HC
  go_upto_region 2 with (fail)
  rw [show W2.setCell ⟨w.heap.size, 18, none⟩ (.string (F.tx.extract 0 (min (F.tx.size : Int) 8200).toNat)) = W2.setCell ⟨w.heap.size, 18, none⟩ (.string (cutT 8200 F.tx)) from rfl]
  clear c18 z18 l18 HCt
  generalize W2.setCell ⟨w.heap.size, 18, none⟩ (.string (cutT 8200 F.tx)) = w3 at *
  have HP := Lib.hid (setRow_heap w3 (w.heap.size + 1) _ (factC (cutF F)) _ _ HR2.out)
  have HB3 := Lib.hid (show Below w.heap.size w (w3.setRow (w.heap.size + 1) (factC (cutF F))) from HB2.out.trans ((row_ch w3 (w.heap.size + 1) (factC (cutF F))).below (B := w.heap.size) (Nat.le_of_lt (lt_of_block HF2.out)) (fun k e => by omega)))
  go_wp2_with (first | (refine wpList_load_fact rfl _ rfl _ rfl (cutF F) HF2.out ?_) | (refine wpList_store_at rfl rfl _ _ rfl (w.heap.size + 1) (cutF F) rfl rfl _ HR2.out rfl ?_))
  refine bodyPost_ret (v := factV (cutF F)) ?_ rfl ⟨rfl, HB3.out⟩
  exact results_cell_row (p := 2) (ty := 23) rfl _ _ (w.heap.size + 1) 23 (factC (cutF F)) (0, 0) _ rfl HP.out Tryd.underlying23 rfl factInfo
end Go.Proofs.YtnmjcjkjdbkpnaaDoor
