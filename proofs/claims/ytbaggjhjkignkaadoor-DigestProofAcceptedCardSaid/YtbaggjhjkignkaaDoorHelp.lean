/-
  The contracts of layer 2's small helpers left and binary; and, as a premise, what the walks of its statements ask of the package's functions.
-/
import Derived.Test.YtbaggjhjkignkaaDoorStrs
import Derived.Test.YtbaggjhjkignkaaDoorSha
namespace Go.Proofs.YtbaggjhjkignkaaDoor
open Go.RowKit Tree

/-- The number of binary digits. -/
def binS (n : Nat) : Nat := if _h : n = 0 then 0 else binS (n / 2) + 1
termination_by n
decreasing_by omega
theorem binS_zero : binS 0 = 0 := by rw [binS]; rfl
theorem binS_pos {n : Nat} (h : n ≠ 0) : binS n = binS (n / 2) + 1 := by rw [binS, dif_neg h]
theorem lt_binS : ∀ (b n : Nat), n ≤ b → n < 2 ^ binS n
  | 0, n, h => by obtain rfl : n = 0 := by omega
                  rw [binS_zero]; decide
  | b + 1, n, h => by
    by_cases h0 : n = 0
    · subst h0; rw [binS_zero]; decide
    · have := lt_binS b (n / 2) (by omega)
      rw [binS_pos h0, Nat.pow_succ]; omega
theorem binS_le : ∀ (b n : Nat), n < 2 ^ b → binS n ≤ b
  | 0, n, h => by obtain rfl : n = 0 := by simpa using h
                  rw [binS_zero]; omega
  | b + 1, n, h => by
    by_cases h0 : n = 0
    · subst h0; rw [binS_zero]; omega
    · rw [Nat.pow_succ] at h
      have := binS_le b (n / 2) (by omega)
      rw [binS_pos h0]; omega

set_option maxRecDepth 100000 in
set_option maxHeartbeats 1000000 in
theorem binary_any (n : Nat) (w : World) (hn : n < 1000000) :
    Calls Tryd.prog 23 #[.int .i64 n] w fun e w' => e = .returned (.int .i64 (binS n : Nat)) ∧ w = w' := by
  have hb := binS_le 20 n (by omega)
  go_enter Tryd.func23, Tryd.ntmps23
  go_wp2_with fail
  go_loop [0, 3] (fun m k => ∃ a b : Nat, m = .int .i64 a ∧ k = .int .i64 b ∧ b + binS a = binS n ∧ a ≤ n) (fun m _ => (intOf m).toNat)
  case atStart => exact ⟨n, 0, rfl, rfl, by omega, by omega⟩
  case round =>
    obtain ⟨a, b, rfl, rfl, hab, ha⟩ := hrel
    by_cases h : 0 < a
    · have hs := binS_pos (n := a) (by omega)
      go_wp2_with fail
      go_round
      case rel => exact ⟨a / 2, b + 1, by go_num, by go_num, by omega, by omega⟩
      case measure => simp [intOf]; omega
    · obtain rfl : a = 0 := by omega
      rw [binS_zero] at hab
      go_wp2_with fail
      go_ret
      exact ⟨by rw [← hab]; rfl, rfl⟩

/-- What the walks of layer 2's statements ask of the package's functions: their answers, over a function H from strings to strings of 32 bytes, in every world in which T holds. -/
structure Digests (H : ByteArray → ByteArray) (T : World → Prop) : Prop where
  below : ∀ {w w' : World}, T w → Below w.heap.size w w' → T w'
  size : ∀ s, (H s).size = 32
  sum : ∀ (s : ByteArray) (w : World), T w → s.size ≤ 2000 → Calls Tryd.prog 7 #[.string s] w fun e w' => e = .returned (.string (H s)) ∧ Below w.heap.size w w'
  leaf : ∀ (s : ByteArray) (w : World), T w → s.size ≤ 1000 → Calls Tryd.prog 9 #[.string s] w fun e w' => e = .returned (.string (leafS H s)) ∧ Below w.heap.size w w'
  node : ∀ (a b : ByteArray) (w : World), T w → a.size ≤ 500 → b.size ≤ 500 → Calls Tryd.prog 11 #[.string a, .string b] w fun e w' => e = .returned (.string (nodeS H a b)) ∧ Below w.heap.size w w'
  chain : ∀ (a b : ByteArray) (w : World), T w → a.size ≤ 500 → b.size ≤ 500 → Calls Tryd.prog 13 #[.string a, .string b] w fun e w' => e = .returned (.string (chainS H a b)) ∧ Below w.heap.size w w'
end Go.Proofs.YtbaggjhjkignkaaDoor

