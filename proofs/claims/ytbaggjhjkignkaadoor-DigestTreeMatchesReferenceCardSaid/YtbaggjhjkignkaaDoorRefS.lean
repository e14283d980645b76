/-
  The reference's small functions: Left; rotated.
-/
import Derived.Test.YtbaggjhjkignkaaDoorHelp
import Derived.Test.YtbaggjhjkignkaaDoorWord
import Derived.Test.YtbaggjhjkignkaaDoorRot
import Derived.Test.YtbaggjhjkignkaaDoorRoot
namespace Go.Proofs.YtbaggjhjkignkaaDoor
open Go.RowKit Tree

set_option maxRecDepth 100000 in
set_option maxHeartbeats 1000000 in
theorem refLeft_any (n : Nat) (w : World) (h2 : 2 ≤ n) (hn : n < 9223372036854775808) :
    Calls Tryd.prog 33 #[.int .i64 n] w fun e w' => e = .returned (.int .i64 (leftN n : Nat)) ∧ w = w' := by
  go_enter Tryd.func33, Tryd.ntmps33
  go_wp2_with fail
  go_loop [3] (fun k => ∃ j : Nat, k = .int .i64 ((2 ^ j : Nat) : Int) ∧ 2 ^ j < n) (fun k => n - (intOf k).toNat)
  case atStart => exact ⟨0, rfl, by omega⟩
  case round =>
    obtain ⟨j, rfl, hj⟩ := hrel
    have hs : 2 ^ (j + 1) = 2 * 2 ^ j := by rw [Nat.pow_succ]; omega
    have hp : 0 < 2 ^ j := Nat.two_pow_pos _
    have HL := Lib.hid (fun h => leftN_is (n := n) (j := j) hj h)
    have HS := Lib.hid hs
    clear hs
    generalize 2 ^ j = k at *
    by_cases h : (k : Int) < (n : Int) - (k : Int)
    · go_wp2_with fail
      go_round
      case rel => exact ⟨j + 1, by rw [HS.out]; go_num, by rw [HS.out]; omega⟩
      case measure => simp [intOf]; omega
    · have h' : decide ((k : Int) < (n : Int) - (k : Int)) = false := by simp; omega
      go_wp2_with fail
      go_ret
      exact ⟨by rw [HL.out (by omega)]; rfl, rfl⟩

set_option maxRecDepth 100000 in
set_option maxHeartbeats 400000 in
theorem refRotated_any (x : Wd) (n : Nat) (w : World) (h0 : 0 < n) (h1 : n < 32) :
    Calls Tryd.prog 46 #[.int .u32 (wv x), .int .i64 n] w fun e w' => e = .returned (.int .u32 (wv (rotW x n))) ∧ Below w.heap.size w w' := by
  have hb := wv_nonneg x
  have hc := wv_lt x
  have hz : wv (rotW x n) = wv (x >>> n ||| x <<< (32 - n)) := by unfold rotW; rfl
  have HZ := Lib.hid hz
  clear hz
  obtain ⟨m, hm⟩ : ∃ m, m = 32 - n := ⟨_, rfl⟩
  simp only [← hm] at HZ
  have hm0 : m < 32 := by omega
  have hmn : (32 : Int) - (n : Int) = (m : Int) := by omega
  clear hm
  have hsl := wv_shl' x m
  have hsr := wv_shr' x n
  have hor := wv_or (x >>> n) (x <<< m)
  go_enter Tryd.func46, Tryd.ntmps46
  go_wp2_with fail
  go_quiet (fail)
  go_wp2_with fail
  go_ret
  rw [HZ.out]
  exact ⟨rfl, below_drewN (Below.refl _ _) _⟩
end Go.Proofs.YtbaggjhjkignkaaDoor

