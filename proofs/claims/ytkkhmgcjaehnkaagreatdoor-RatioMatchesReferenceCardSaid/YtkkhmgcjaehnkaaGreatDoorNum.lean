/-
  Contracts of layer 3's small functions: size, commonDivisor, Valid, cmp.Compare at integers, floorQuotient.
-/
import Derived.Test.YtkkhmgcjaehnkaaGreatDoorChecked
import Derived.Test.YtkkhmgcjaehnkaaGreatDoorArith
import Derived.WalkKit
import Derived.OwnWalk
import Derived.Outline
import Derived.Lib.Hide
import Derived.LoopTactic
import Derived.Deep.QuietTactic
import Derived.BigQuiet
import Derived.WalkSmall
namespace Go.Proofs.YtkkhmgcjaehnkaaGreatDoor
open Go.RowKit

theorem ret_int {k : IntKind} {a b : Int} (h : a = b) : Ending.returned (.int k a) = .returned (.int k b) := by rw [h]

theorem size_any (n : Int) (w : World) (h1 : -9223372036854775808 ≤ n) (h2 : n ≤ 9223372036854775807) :
    Calls Tryz.prog 43 #[.int .i64 n] w fun e w' => e = .returned (.int .u64 ((n.natAbs : Nat) : Int)) ∧ w = w' := by
  by_cases h : n < 0
  · go_enter Tryz.func43, Tryz.ntmps43
    go_wp2
    go_ret
    refine ⟨ret_int ?_, rfl⟩
    simp only [IntKind.wrap_u64]; omega
  · go_enter Tryz.func43, Tryz.ntmps43
    go_wp2
    go_ret
    exact ⟨ret_int (by omega), rfl⟩

set_option maxHeartbeats 400000 in
theorem divisor_any (a b : Nat) (w : World) (ha : a < 18446744073709551616) (hb : b < 18446744073709551616) :
    Calls Tryz.prog 42 #[.int .u64 (a : Int), .int .u64 (b : Int)] w fun e w' => e = .returned (.int .u64 ((Nat.gcd a b : Nat) : Int)) ∧ ∃ n, w' = w.drewN n := by
  obtain ⟨G, hG⟩ : ∃ G, Nat.gcd a b = G := ⟨_, rfl⟩
  have H0 : Hid (a < 18446744073709551616 ∧ b < 18446744073709551616 ∧ Nat.gcd a b = G) := Lib.hid ⟨ha, hb, hG⟩
  rw [hG]
  clear ha hb hG
  go_enter Tryz.func42, Tryz.ntmps42
  go_wp2
  go_loopw [0, 1] (fun x y wr => ∃ p q n : Nat, x = .int .u64 (p : Int) ∧ y = .int .u64 (q : Int) ∧ wr = w.drewN n ∧ Hid (p < 18446744073709551616 ∧ q < 18446744073709551616 ∧ Nat.gcd p q = G)) (fun _ y _ => (intOf y).toNat)
  case atStart => exact ⟨a, b, 0, rfl, rfl, rfl, H0⟩
  case round =>
    obtain ⟨p, q, n, rfl, rfl, rfl, hh⟩ := hrel
    by_cases hq : q = 0
    · subst hq
      go_wp2
      go_ret
      exact ⟨ret_int (by have := hh.out.2.2; simp at this; omega), n, rfl⟩
    · have hq0 : ((q : Int) != 0) = true := by rw [bne_iff_ne]; omega
      have hq1 : ¬ (q : Int) = 0 := by omega
      have hq2 : 0 < (q : Int) := by omega
      have hp0 : 0 ≤ (p : Int) := by omega
      have hlt : p % q < q := Nat.mod_lt _ (by omega)
      have hg : Nat.gcd q (p % q) = G := by rw [← hh.out.2.2, Nat.gcd_comm p q, Nat.gcd_rec q p, Nat.gcd_comm]
      have hb1 := hh.out.2.1
      have HN : Hid (q < 18446744073709551616 ∧ p % q < 18446744073709551616 ∧ Nat.gcd q (p % q) = G) := Lib.hid ⟨hb1, by omega, hg⟩
      have HL := Lib.hid hlt
      have hmod : (p : Int).tmod (q : Int) = ((p % q : Nat) : Int) := rfl
      clear hg hh hlt hb1 hq
      go_wp2_with fail
      go_quiet (fail)
      go_wp2_with fail
      go_roundw
      case rel => exact ⟨q, p % q, _, rfl, by rfl, World.drewN_drewN _ _ _, HN⟩
      case measure => simp [intOf]; have := HL.out; omega

/-- A fraction as the program holds it. -/
abbrev ratV (n d : Int) : Value := .agg #[.int .i64 n, .int .i64 d]
def okB (n d : Int) : Bool := decide (Ra.Ok n d)
theorem okB_true {n d : Int} (h : Ra.Ok n d) : okB n d = true := decide_eq_true h
theorem okB_false {n d : Int} (h : ¬ Ra.Ok n d) : okB n d = false := decide_eq_false h
theorem ret_bool {a b : Bool} (h : a = b) : Ending.returned (.bool a) = .returned (.bool b) := by rw [h]

theorem size_q (n : Int) (w : World) (k : Nat) (h1 : -9223372036854775808 ≤ n) (h2 : n ≤ 9223372036854775807) :
    Calls Tryz.prog 43 #[.int .i64 n] (w.drewN k) fun e w' => e = .returned (.int .u64 ((n.natAbs : Nat) : Int)) ∧ ∃ m, w' = w.drewN m :=
  (size_any n _ h1 h2).mono fun _ _ ⟨he, hw⟩ => ⟨he, k, hw.symm⟩

set_option maxHeartbeats 400000 in
theorem valid_any (n d : Int) (w : World) (n1 : -9223372036854775808 ≤ n) (n2 : n ≤ 9223372036854775807) (d1 : -9223372036854775808 ≤ d) (d2 : d ≤ 9223372036854775807) :
    Calls Tryz.prog 18 #[ratV n d] w fun e w' => e = .returned (.bool (okB n d)) ∧ Below w.heap.size w w' := by
  by_cases c1 : d < 1
  · have hf : okB n d = false := okB_false fun h => by have := h.1; omega
    have HF := Lib.hid hf; clear hf
    go_enter Tryz.func18, Tryz.ntmps18
    go_wp2
    go_ret
    exact ⟨by rw [HF.out]; rfl, (Below.refl _ _).alloc (Nat.le_refl _) _⟩
  by_cases c2 : 1000000000 < d
  · have hf : okB n d = false := okB_false fun h => by have := h.2.1; omega
    have HF := Lib.hid hf; clear hf
    go_enter Tryz.func18, Tryz.ntmps18
    go_wp2
    go_ret
    exact ⟨by rw [HF.out]; rfl, (Below.refl _ _).alloc (Nat.le_refl _) _⟩
  by_cases c3 : n < -1000000000
  · have hf : okB n d = false := okB_false fun h => by have := h.2.2.1; omega
    have HF := Lib.hid hf; clear hf
    go_enter Tryz.func18, Tryz.ntmps18
    go_wp2
    go_ret
    exact ⟨by rw [HF.out]; rfl, (Below.refl _ _).alloc (Nat.le_refl _) _⟩
  by_cases c4 : 1000000000 < n
  · have hf : okB n d = false := okB_false fun h => by have := h.2.2.2.1; omega
    have HF := Lib.hid hf; clear hf
    go_enter Tryz.func18, Tryz.ntmps18
    go_wp2
    go_ret
    exact ⟨by rw [HF.out]; rfl, (Below.refl _ _).alloc (Nat.le_refl _) _⟩
  have hf : okB n d = ((((Nat.gcd n.natAbs d.natAbs : Nat) : Int)) == 1) := by
    by_cases hg : Nat.gcd n.natAbs d.natAbs = 1
    · rw [hg, okB_true ⟨by omega, by omega, by omega, by omega, hg⟩]; rfl
    · rw [okB_false fun h => hg h.2.2.2.2]
      symm; rw [beq_eq_false_iff_ne]; omega
  obtain ⟨G, hG⟩ : ∃ G : Nat, Nat.gcd n.natAbs d.natAbs = G := ⟨_, rfl⟩
  rw [hG] at hf
  have hdv : ∀ w, Calls Tryz.prog 42 #[.int .u64 ((n.natAbs : Nat) : Int), .int .u64 ((d.natAbs : Nat) : Int)] w fun e w' => e = .returned (.int .u64 (G : Int)) ∧ ∃ n, w' = w.drewN n :=
    fun w => by rw [← hG]; exact divisor_any _ _ w (by omega) (by omega)
  have HD := Lib.hid hdv
  have HF := Lib.hid hf; clear hf hG hdv
  go_enter Tryz.func18, Tryz.ntmps18
  go_wp2_with fail
  go_quiet ((first | (go_at_call 43; exact size_q _ _ _ (by omega) (by omega)) | (go_at_call 42; exact (HD.out _).mono (fun _ _ ⟨he, k, hw⟩ => ⟨he, _, hw.trans (World.drewN_drewN _ _ _)⟩))))
  go_wp2_with fail
  go_ret
  exact ⟨by rw [HF.out]; rfl, below_drewN ((Below.refl _ _).alloc (Nat.le_refl _) _) _⟩

set_option maxHeartbeats 400000 in
theorem floorQ_any (n d : Int) (w : World) (n1 : -9000000000000000000 ≤ n) (n2 : n ≤ 9000000000000000000) (d1 : 0 < d) (d2 : d ≤ 9000000000000000000) :
    Calls Tryz.prog 40 #[.int .i64 n, .int .i64 d] w fun e w' => e = .returned (.int .i64 (Ra.flo n d)) ∧ w = w' := by
  have hz : ¬ d = 0 := by omega
  have hq : (n.tdiv d).natAbs ≤ n.natAbs := by rw [Int.natAbs_tdiv]; exact Nat.div_le_self _ _
  have q1 : -9000000000000000000 ≤ n.tdiv d := by omega
  have q2 : n.tdiv d ≤ 9000000000000000000 := by omega
  have e1 : wrap64 (n.tdiv d) = n.tdiv d := IntWalk.wrap64_in _ ⟨by omega, by omega⟩
  have e2 : wrap64 (n.tdiv d - 1) = n.tdiv d - 1 := IntWalk.wrap64_in _ ⟨by omega, by omega⟩
  clear hq
  have E1 := Lib.hid e1
  have E2 := Lib.hid e2
  clear e1 e2
  by_cases h : n.tmod d < 0
  · have hf : Ra.flo n d = n.tdiv d - 1 := by unfold Ra.flo; rw [if_pos h]
    have HF := Lib.hid hf; clear hf
    go_enter Tryz.func40, Tryz.ntmps40
    go_wp2
    go_ret
    exact ⟨ret_int (by rw [HF.out]), rfl⟩
  · have hf : Ra.flo n d = n.tdiv d := by unfold Ra.flo; rw [if_neg h]
    have HF := Lib.hid hf; clear hf
    go_enter Tryz.func40, Tryz.ntmps40
    go_wp2
    go_ret
    exact ⟨ret_int (by rw [HF.out]), rfl⟩

theorem cmp_any (x y : Int) (w : World) (r : Int) (hr : (x < y ∧ r = -1) ∨ (y < x ∧ r = 1) ∨ (x = y ∧ r = 0)) :
    Calls Tryz.prog 44 #[.int .i64 x, .int .i64 y] w fun e w' => e = .returned (.int .i64 r) ∧ w = w' := by
  rcases hr with ⟨h, rfl⟩ | ⟨h, rfl⟩ | ⟨rfl, rfl⟩
  · go_enter Tryz.func44, Tryz.ntmps44
    go_wp2
    go_ret
    exact ⟨rfl, rfl⟩
  · have h' : ¬ x < y := by omega
    go_enter Tryz.func44, Tryz.ntmps44
    go_wp2
    go_ret
    exact ⟨rfl, rfl⟩
  · go_enter Tryz.func44, Tryz.ntmps44
    go_wp2
    go_ret
    exact ⟨rfl, rfl⟩
end Go.Proofs.YtkkhmgcjaehnkaaGreatDoor
