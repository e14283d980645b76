/-
  The contracts of the package's rotate and of bits.RotateLeft32.
-/
import Derived.Test.YtbaggjhjkignkaaDoorWord
import Derived.Deep.QuietTactic
import Derived.BigQuiet
namespace Go.Proofs.YtbaggjhjkignkaaDoor
open Go.RowKit

theorem neg_and31 : ∀ k : Fin 32, 0 < k.val → bits .and .u64 (IntKind.u64.wrap (-(k.val : Int))) 31 = ((32 - k.val : Nat) : Int) := by decide +kernel

set_option maxHeartbeats 400000 in
theorem rotl_any (x : Wd) (n : Nat) (w : World) (h0 : 0 < n) (h1 : n < 32) :
    Calls Tryd.prog 59 #[.int .u32 (wv x), .int .i64 (-(n : Int))] w fun e w' => e = .returned (.int .u32 (wv (rotW x n))) ∧ w = w' := by
  have hb := wv_nonneg x
  have hc := wv_lt x
  have hk := neg_and31 ⟨n, h1⟩ h0
  have hz : wv (rotW x n) = wv (x <<< (32 - n) ||| x >>> n) := by unfold rotW; rw [BitVec.or_comm]
  have HZ := Lib.hid hz
  clear hz
  obtain ⟨m, hm⟩ : ∃ m, m = 32 - n := ⟨_, rfl⟩
  simp only [← hm] at hk HZ
  have hm0 : m < 32 := by omega
  have hm1 : 0 < m := by omega
  have hmn : m + n ≤ 32 := by omega
  have hmn' : 32 ≤ m + n := by omega
  clear hm
  have hd : (32 : Int) - (m : Int) = (n : Int) := by omega
  have hsl := wv_shl' x m
  have hsr := wv_shr' x n
  have hor := wv_or (x <<< m) (x >>> n)
  go_enter Tryd.func59, Tryd.ntmps59
  go_wp2
  go_ret
  rw [HZ.out]
  exact ⟨rfl, rfl⟩

theorem rotate_any (x : Wd) (k : Int) (w : World) (h0 : 0 < k) (h1 : k < 32) :
    Calls Tryd.prog 55 #[.int .u32 (wv x), .int .i64 k] w fun e w' => e = .returned (.int .u32 (wv (rotW x k.toNat))) ∧ w = w' := by
  obtain ⟨n, rfl⟩ := Int.eq_ofNat_of_zero_le (Int.le_of_lt h0)
  go_enter Tryd.func55, Tryd.ntmps55
  go_wp2_with (go_at_call 59; refine (rotl_any x n _ (by omega) (by omega)).mono ?_; rintro e w' ⟨rfl, rfl⟩)
  go_ret
  exact ⟨rfl, rfl⟩
/-- The same within a region that only reads. -/
theorem rotate_q (x : Wd) (k : Int) (w : World) (n : Nat) (h0 : 0 < k) (h1 : k < 32) :
    Calls Tryd.prog 55 #[.int .u32 (wv x), .int .i64 k] (w.drewN n) fun e w' => e = .returned (.int .u32 (wv (rotW x k.toNat))) ∧ ∃ m, w' = w.drewN m :=
  (rotate_any x k (w.drewN n) h0 h1).mono fun _ _ ⟨he, hw⟩ => ⟨he, n, hw.symm⟩
/-- The same behind a region that only read. -/
theorem rotate_q2 (x : Wd) (k : Int) (w : World) (a n : Nat) (h0 : 0 < k) (h1 : k < 32) :
    Calls Tryd.prog 55 #[.int .u32 (wv x), .int .i64 k] (w.drewN (a + n)) fun e w' => e = .returned (.int .u32 (wv (rotW x k.toNat))) ∧ ∃ m, w' = w.drewN (a + m) :=
  (rotate_any x k (w.drewN (a + n)) h0 h1).mono fun _ _ ⟨he, hw⟩ => ⟨he, n, hw.symm⟩
end Go.Proofs.YtbaggjhjkignkaaDoor

