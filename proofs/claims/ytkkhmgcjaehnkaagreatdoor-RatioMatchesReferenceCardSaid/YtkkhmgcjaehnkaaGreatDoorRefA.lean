/-
  The reference's size, divisor and Valid: what the package's own answer. No condition beside an int's bounds.
-/
import Derived.Test.YtkkhmgcjaehnkaaGreatDoorLibs
namespace Go.Proofs.YtkkhmgcjaehnkaaGreatDoor
open Go.RowKit

theorem refSize_any (n : Int) (w : World) (h1 : -9223372036854775808 ≤ n) (h2 : n ≤ 9223372036854775807) :
    Calls Tryz.prog 32 #[.int .i64 n] w fun e w' => e = .returned (.int .u64 ((n.natAbs : Nat) : Int)) ∧ w = w' := by
  by_cases h : n < 0
  · go_enter Tryz.func32, Tryz.ntmps32
    go_wp2
    go_ret
    refine ⟨ret_int ?_, rfl⟩
    omega
  · go_enter Tryz.func32, Tryz.ntmps32
    go_wp2
    go_ret
    exact ⟨ret_int (by omega), rfl⟩

set_option maxHeartbeats 400000 in
theorem refDivisor_any (a b : Nat) (w : World) (ha : a < 18446744073709551616) (hb : b < 18446744073709551616) :
    Calls Tryz.prog 31 #[.int .u64 (a : Int), .int .u64 (b : Int)] w fun e w' => e = .returned (.int .u64 ((Nat.gcd a b : Nat) : Int)) ∧ ∃ n, w' = w.drewN n := by
  obtain ⟨G, hG⟩ : ∃ G, Nat.gcd a b = G := ⟨_, rfl⟩
  have H0 : Hid (a < 18446744073709551616 ∧ b < 18446744073709551616 ∧ Nat.gcd a b = G) := Lib.hid ⟨ha, hb, hG⟩
  rw [hG]
  clear ha hb hG
  go_enter Tryz.func31, Tryz.ntmps31
  go_wp2
  go_loopw [0, 1] (fun x y wr => ∃ p q n : Nat, x = .int .u64 (p : Int) ∧ y = .int .u64 (q : Int) ∧ wr = w.drewN n ∧ Hid (p < 18446744073709551616 ∧ q < 18446744073709551616 ∧ Nat.gcd p q = G)) (fun _ y _ => (intOf y).toNat)
  case atStart => exact ⟨a, b, 0, rfl, rfl, rfl, H0⟩
  case round =>
    obtain ⟨p, q, n, rfl, rfl, rfl, hh⟩ := hrel
    by_cases hq : q = 0
    · subst hq
      go_wp2
      go_ret
      exact ⟨ret_int (by have := hh.out.2.2; simp at this; omega), n, rfl⟩
    · have hq0 : decide (0 < (q : Int)) = true := by simp; omega
      have hq1 : ¬ (q : Int) = 0 := by omega
      have hq2 : 0 < (q : Int) := by omega
      have hp0 : 0 ≤ (p : Int) := by omega
      have hlt : p % q < q := Nat.mod_lt _ (by omega)
      have hg : Nat.gcd q (p % q) = G := by rw [← hh.out.2.2, Nat.gcd_comm p q, Nat.gcd_rec q p, Nat.gcd_comm]
      have hb1 := hh.out.2.1
      have HN : Hid (q < 18446744073709551616 ∧ p % q < 18446744073709551616 ∧ Nat.gcd q (p % q) = G) := Lib.hid ⟨hb1, by omega, hg⟩
      have HL := Lib.hid hlt
      have hmod : (p : Int).tmod (q : Int) = ((p % q : Nat) : Int) := rfl
      clear hg hh hlt hb1 hq
      go_wp2_with fail
      go_quiet (fail)
      go_wp2_with fail
      go_roundw
      case rel => exact ⟨q, p % q, _, rfl, by rfl, World.drewN_drewN _ _ _, HN⟩
      case measure => simp [intOf]; have := HL.out; omega

theorem refSize_q (n : Int) (w : World) (k : Nat) (h1 : -9223372036854775808 ≤ n) (h2 : n ≤ 9223372036854775807) :
    Calls Tryz.prog 32 #[.int .i64 n] (w.drewN k) fun e w' => e = .returned (.int .u64 ((n.natAbs : Nat) : Int)) ∧ ∃ m, w' = w.drewN m :=
  (refSize_any n _ h1 h2).mono fun _ _ ⟨he, hw⟩ => ⟨he, k, hw.symm⟩

set_option maxHeartbeats 400000 in
theorem refValid_any (n d : Int) (w : World) (n1 : -9223372036854775808 ≤ n) (n2 : n ≤ 9223372036854775807) (d1 : -9223372036854775808 ≤ d) (d2 : d ≤ 9223372036854775807) :
    Calls Tryz.prog 19 #[ratV n d] w fun e w' => e = .returned (.bool (okB n d)) ∧ Below w.heap.size w w' := by
  by_cases c1 : 1 ≤ d
  case neg =>
    have hf : okB n d = false := okB_false fun h => by have := h.1; omega
    have HF := Lib.hid hf; clear hf
    have b1 : decide (1 ≤ d) = false := decide_eq_false c1
    go_enter Tryz.func19, Tryz.ntmps19
    go_wp2_with fail
    go_quiet (fail)
    go_wp2_with fail
    go_ret
    exact ⟨by rw [HF.out]; rfl, below_drewN ((Below.refl _ _).alloc (Nat.le_refl _) _) _⟩
  have b1 : decide (1 ≤ d) = true := decide_eq_true c1
  by_cases c2 : d ≤ 1000000000
  case neg =>
    have hf : okB n d = false := okB_false fun h => by have := h.2.1; omega
    have HF := Lib.hid hf; clear hf
    have b2 : decide (d ≤ 1000000000) = false := decide_eq_false c2
    go_enter Tryz.func19, Tryz.ntmps19
    go_wp2_with fail
    go_quiet (fail)
    go_wp2_with fail
    go_ret
    exact ⟨by rw [HF.out]; rfl, below_drewN ((Below.refl _ _).alloc (Nat.le_refl _) _) _⟩
  have b2 : decide (d ≤ 1000000000) = true := decide_eq_true c2
  by_cases c3 : -1000000000 ≤ n
  case neg =>
    have hf : okB n d = false := okB_false fun h => by have := h.2.2.1; omega
    have HF := Lib.hid hf; clear hf
    have b3 : decide (-1000000000 ≤ n) = false := decide_eq_false c3
    go_enter Tryz.func19, Tryz.ntmps19
    go_wp2_with fail
    go_quiet (fail)
    go_wp2_with fail
    go_ret
    exact ⟨by rw [HF.out]; rfl, below_drewN ((Below.refl _ _).alloc (Nat.le_refl _) _) _⟩
  have b3 : decide (-1000000000 ≤ n) = true := decide_eq_true c3
  by_cases c4 : n ≤ 1000000000
  case neg =>
    have hf : okB n d = false := okB_false fun h => by have := h.2.2.2.1; omega
    have HF := Lib.hid hf; clear hf
    have b4 : decide (n ≤ 1000000000) = false := decide_eq_false c4
    go_enter Tryz.func19, Tryz.ntmps19
    go_wp2_with fail
    go_quiet (fail)
    go_wp2_with fail
    go_ret
    exact ⟨by rw [HF.out]; rfl, below_drewN ((Below.refl _ _).alloc (Nat.le_refl _) _) _⟩
  have b4 : decide (n ≤ 1000000000) = true := decide_eq_true c4
  have hf : okB n d = ((((Nat.gcd n.natAbs d.natAbs : Nat) : Int)) == 1) := by
    by_cases hg : Nat.gcd n.natAbs d.natAbs = 1
    · rw [hg, okB_true ⟨by omega, by omega, by omega, by omega, hg⟩]; rfl
    · rw [okB_false fun h => hg h.2.2.2.2]
      symm; rw [beq_eq_false_iff_ne]; omega
  obtain ⟨G, hG⟩ : ∃ G : Nat, Nat.gcd n.natAbs d.natAbs = G := ⟨_, rfl⟩
  rw [hG] at hf
  have hdv : ∀ w, Calls Tryz.prog 31 #[.int .u64 ((n.natAbs : Nat) : Int), .int .u64 ((d.natAbs : Nat) : Int)] w fun e w' => e = .returned (.int .u64 (G : Int)) ∧ ∃ n, w' = w.drewN n :=
    fun w => by rw [← hG]; exact refDivisor_any _ _ w (by omega) (by omega)
  have HD := Lib.hid hdv
  have HF := Lib.hid hf; clear hf hG hdv
  go_enter Tryz.func19, Tryz.ntmps19
  go_wp2_with fail
  go_quiet ((first | (go_at_call 32; exact refSize_q _ _ _ (by omega) (by omega)) | (go_at_call 31; exact (HD.out _).mono (fun _ _ ⟨he, k, hw⟩ => ⟨he, _, hw.trans (World.drewN_drewN _ _ _)⟩))))
  go_wp2_with fail
  go_ret
  exact ⟨by rw [HF.out]; rfl, below_drewN ((Below.refl _ _).alloc (Nat.le_refl _) _) _⟩
end Go.Proofs.YtkkhmgcjaehnkaaGreatDoor
