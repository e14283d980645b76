/-
  Contracts of check and reduce: they return, or raise errNone, whose variable reads as its condition says (NoneAt).
-/
import Derived.Test.YtkkhmgcjaehnkaaGreatDoorNum
namespace Go.Proofs.YtkkhmgcjaehnkaaGreatDoor
open Go.RowKit

/-- The error of the package, as its variable holds it. -/
abbrev noneV (a : Addr) : Value := .iface 111 (.pointer (some a))
/-- The variable errNone holds a pointer to its text. -/
def NoneAt (a : Addr) (w : World) : Prop := 0 < w.heap.size ∧ w.cell? ⟨0, 0, none⟩ = some (noneV a)
theorem NoneAt.below {a : Addr} {w w' : World} (h : NoneAt a w) (hb : Below w.heap.size w w') : NoneAt a w' :=
  ⟨Nat.lt_of_lt_of_le h.1 hb.size, (hb.cell (p := ⟨0, 0, none⟩) h.1).trans h.2⟩
theorem below_step {w w1 w2 : World} (a : Below w.heap.size w w1) (b : Below w1.heap.size w1 w2) : Below w.heap.size w w2 := a.trans (b.mono a.size)
theorem below_new (w : World) (o : Obj) : Below w.heap.size w (w.alloc o) := (Below.refl _ _).alloc (Nat.le_refl _) _
/-- What is raised. -/
abbrev raised (a : Addr) : Ending := .panicked [{ v := noneV a, recovered := false }]

theorem check_yes (n d : Int) (w : World) (h : Ra.Ok n d) :
    Calls Tryz.prog 34 #[ratV n d] w fun e w' => e = .returned (.tuple #[]) ∧ Below w.heap.size w w' := by
  have hv : ∀ w, Calls Tryz.prog 18 #[ratV n d] w fun e w' => e = .returned (.bool true) ∧ Below w.heap.size w w' := fun w => by
    have := valid_any n d w (by have := h.2.2.1; omega) (by have := h.2.2.2.1; omega) (by have := h.1; omega) (by have := h.2.1; omega)
    rw [okB_true h] at this; exact this
  have HV := Lib.hid hv; clear hv h
  go_enter Tryz.func34, Tryz.ntmps34
  go_wp2_with fail
  refine (HV.out _).mono ?_; rintro e w1 ⟨rfl, hb1⟩
  go_wp2_with fail
  go_end0
  exact ⟨rfl, below_step (below_new _ _) hb1⟩

theorem check_no (n d : Int) (w : World) (n1 : -9223372036854775808 ≤ n) (n2 : n ≤ 9223372036854775807) (d1 : -9223372036854775808 ≤ d) (d2 : d ≤ 9223372036854775807) (a : Addr) (hN : NoneAt a w) (h : ¬ Ra.Ok n d) :
    Calls Tryz.prog 34 #[ratV n d] w fun e w' => e = raised a ∧ Below w.heap.size w w' := by
  have hv : ∀ w, Calls Tryz.prog 18 #[ratV n d] w fun e w' => e = .returned (.bool false) ∧ Below w.heap.size w w' := fun w => by
    have := valid_any n d w n1 n2 d1 d2
    rw [okB_false h] at this; exact this
  have HV := Lib.hid hv; clear hv h
  have HN := Lib.hid hN
  clear hN
  go_enter Tryz.func34, Tryz.ntmps34
  go_wp2_with fail
  refine (HV.out _).mono ?_; rintro e w1 ⟨rfl, hb1⟩
  have hb2 := below_step (below_new _ _) hb1
  have hc1 : w1.cell? ⟨0, 0, none⟩ = some (noneV a) := (HN.out.below hb2).2
  go_wp2_with fail
  exact ⟨rfl, rfl, hb2⟩

theorem nat_div_cast (a b : Nat) : (a : Int) / (b : Int) = ((a / b : Nat) : Int) := by omega
set_option maxHeartbeats 1000000 in
theorem reduce_yes (n d p q : Int) (w : World) (n1 : -9223372036854775808 ≤ n) (n2 : n ≤ 9223372036854775807) (d1 : -9223372036854775808 ≤ d) (d2 : d ≤ 9223372036854775807) (h : Ra.red n d = some (p, q)) :
    Calls Tryz.prog 30 #[.int .i64 n, .int .i64 d] w fun e w' => e = .returned (ratV p q) ∧ Below w.heap.size w w' := by
  have hd : d ≠ 0 := (Ra.red_ok h).2.2
  unfold Ra.red at h
  rw [if_neg hd] at h
  split at h
  case isFalse => cases h
  rename_i hf
  injection h with h
  obtain ⟨f1, f2⟩ := hf
  have hg := Ra.gcd_pos (n := n) hd
  have u1 := Ra.under_pos (n := n) hd
  have eO : ((n.natAbs : Nat) : Int) / ((Nat.gcd n.natAbs d.natAbs : Nat) : Int) = ((Ra.over n d : Nat) : Int) := Int.natCast_ediv _ _
  have eU : ((d.natAbs : Nat) : Int) / ((Nat.gcd n.natAbs d.natAbs : Nat) : Int) = ((Ra.under n d : Nat) : Int) := Int.natCast_ediv _ _
  have hp : ((Ra.num n d, ((Ra.under n d : Nat) : Int)) : Int × Int) = (p, q) := h
  injection hp with hp hq
  unfold Ra.num at hp
  have hs : ∀ w, Calls Tryz.prog 42 #[.int .u64 ((n.natAbs : Nat) : Int), .int .u64 ((d.natAbs : Nat) : Int)] w fun e w' => e = .returned (.int .u64 ((Nat.gcd n.natAbs d.natAbs : Nat) : Int)) ∧ ∃ n, w' = w.drewN n :=
    fun w => divisor_any _ _ w (by omega) (by omega)
  have hgb : Nat.gcd n.natAbs d.natAbs ≤ d.natAbs := Nat.gcd_le_right _ (by omega)
  have hA : n.natAbs ≤ 9223372036854775808 := by omega
  have hB : d.natAbs ≤ 9223372036854775808 := by omega
  generalize Ra.over n d = O at *
  generalize Ra.under n d = U at *
  have z1 : ∀ w, Calls Tryz.prog 43 #[.int .i64 n] w fun e w' => e = .returned (.int .u64 ((n.natAbs : Nat) : Int)) ∧ w = w' := fun w => size_any n w n1 n2
  have z2 : ∀ w, Calls Tryz.prog 43 #[.int .i64 d] w fun e w' => e = .returned (.int .u64 ((d.natAbs : Nat) : Int)) ∧ w = w' := fun w => size_any d w d1 d2
  generalize Nat.gcd n.natAbs d.natAbs = G at *
  generalize n.natAbs = A at *
  generalize d.natAbs = B at *
  have g0 : ¬ (G : Int) = 0 := by omega
  have g1 : 0 < (G : Int) := by omega
  have g2 : (G : Int) ≤ 9223372036854775808 := by omega
  have a1 : (0 : Int) ≤ A := by omega
  have a2 : (A : Int) ≤ 9223372036854775808 := by omega
  have b1 : (0 : Int) ≤ B := by omega
  have b2 : (B : Int) ≤ 9223372036854775808 := by omega
  have o1 : decide ((1000000000 : Int) < (O : Int)) = false := by simp; omega
  have o2 : decide ((1000000000 : Int) < (U : Int)) = false := by simp; omega
  have o3 : ¬ (1000000000 : Int) < (O : Int) := by omega
  have o4 : ¬ (1000000000 : Int) < (U : Int) := by omega
  have o5 : (0 : Int) ≤ (O : Int) := by omega
  have o6 : (0 : Int) ≤ (U : Int) := by omega
  have dz : ((d : Int) == 0) = false := by rw [beq_eq_false_iff_ne]; exact hd
  subst hq
  have HS := Lib.hid hs
  have Z1 := Lib.hid z1
  have Z2 := Lib.hid z2
  clear hs z1 z2 h hg hgb hA hB f1 f2 u1 hd
  have key : (decide (n < 0) = true ∧ decide (d < 0) = true ∧ p = (O : Int)) ∨ (decide (n < 0) = true ∧ decide (d < 0) = false ∧ p = -(O : Int)) ∨ (decide (n < 0) = false ∧ decide (d < 0) = true ∧ p = -(O : Int)) ∨ (decide (n < 0) = false ∧ decide (d < 0) = false ∧ p = (O : Int)) := by
    cases e1 : decide (n < 0) <;> cases e2 : decide (d < 0) <;> rw [e1, e2] at hp <;> simp at hp <;> simp [hp]
  clear hp
  rcases key with ⟨m1, m2, rfl⟩ | ⟨m1, m2, rfl⟩ | ⟨m1, m2, rfl⟩ | ⟨m1, m2, rfl⟩
  all_goals
    go_enter Tryz.func30, Tryz.ntmps30
    go_wp2_with fail
    refine (Z1.out _).mono ?_; rintro e w1 ⟨rfl, rfl⟩
    go_wp2_with fail
    refine (Z2.out _).mono ?_; rintro e w1 ⟨rfl, rfl⟩
    go_wp2_with fail
    refine (HS.out _).mono ?_; rintro e w1 ⟨rfl, k, rfl⟩
    go_wp2_with fail
    go_quiet (fail)
    go_wp2_with fail
    refine bodyPost_ret (v := ratV _ _) (by simp [results, Tryz.results30, go_sem]) rfl ⟨rfl, ?_⟩
    repeat (first | exact below_drewN (below_new _ _) _ | refine Below.setCell ?_ (by simp) _ | refine Below.alloc ?_ (by simp) _)

set_option maxHeartbeats 1000000 in
theorem reduce_no (n d : Int) (w : World) (n1 : -9223372036854775808 ≤ n) (n2 : n ≤ 9223372036854775807) (d1 : -9223372036854775808 ≤ d) (d2 : d ≤ 9223372036854775807) (a : Addr) (hN : NoneAt a w) (h : Ra.red n d = none) :
    Calls Tryz.prog 30 #[.int .i64 n, .int .i64 d] w fun e w' => e = raised a ∧ Below w.heap.size w w' := by
  have HN := Lib.hid hN
  by_cases hd : d = 0
  · subst hd
    have hc1 : (w.alloc (.cells #[.int .i64 0, .int .i64 0] 25)).cell? ⟨0, 0, none⟩ = some (noneV a) := (hN.below (below_new _ _)).2
    clear hN h
    go_enter Tryz.func30, Tryz.ntmps30
    go_wp2_with fail
    exact ⟨rfl, rfl, below_new _ _⟩
  clear hN
  unfold Ra.red at h
  rw [if_neg hd] at h
  have hf : ¬ (Ra.over n d ≤ 1000000000 ∧ Ra.under n d ≤ 1000000000) := by
    intro hh; rw [if_pos hh] at h; cases h
  have hg := Ra.gcd_pos (n := n) hd
  have eO : ((n.natAbs : Nat) : Int) / ((Nat.gcd n.natAbs d.natAbs : Nat) : Int) = ((Ra.over n d : Nat) : Int) := Int.natCast_ediv _ _
  have eU : ((d.natAbs : Nat) : Int) / ((Nat.gcd n.natAbs d.natAbs : Nat) : Int) = ((Ra.under n d : Nat) : Int) := Int.natCast_ediv _ _
  have hs : ∀ w, Calls Tryz.prog 42 #[.int .u64 ((n.natAbs : Nat) : Int), .int .u64 ((d.natAbs : Nat) : Int)] w fun e w' => e = .returned (.int .u64 ((Nat.gcd n.natAbs d.natAbs : Nat) : Int)) ∧ ∃ n, w' = w.drewN n :=
    fun w => divisor_any _ _ w (by omega) (by omega)
  have hgb : Nat.gcd n.natAbs d.natAbs ≤ d.natAbs := Nat.gcd_le_right _ (by omega)
  have hA : n.natAbs ≤ 9223372036854775808 := by omega
  have hB : d.natAbs ≤ 9223372036854775808 := by omega
  have ob : Ra.over n d ≤ n.natAbs := Nat.div_le_self _ _
  have ub : Ra.under n d ≤ d.natAbs := Nat.div_le_self _ _
  generalize Ra.over n d = O at *
  generalize Ra.under n d = U at *
  have z1 : ∀ w, Calls Tryz.prog 43 #[.int .i64 n] w fun e w' => e = .returned (.int .u64 ((n.natAbs : Nat) : Int)) ∧ w = w' := fun w => size_any n w n1 n2
  have z2 : ∀ w, Calls Tryz.prog 43 #[.int .i64 d] w fun e w' => e = .returned (.int .u64 ((d.natAbs : Nat) : Int)) ∧ w = w' := fun w => size_any d w d1 d2
  generalize Nat.gcd n.natAbs d.natAbs = G at *
  generalize n.natAbs = A at *
  generalize d.natAbs = B at *
  have g0 : ¬ (G : Int) = 0 := by omega
  have g1 : 0 < (G : Int) := by omega
  have g2 : (G : Int) ≤ 9223372036854775808 := by omega
  have a1 : (0 : Int) ≤ A := by omega
  have a2 : (A : Int) ≤ 9223372036854775808 := by omega
  have b1 : (0 : Int) ≤ B := by omega
  have b2 : (B : Int) ≤ 9223372036854775808 := by omega
  have o5 : (0 : Int) ≤ (O : Int) := by omega
  have o6 : (0 : Int) ≤ (U : Int) := by omega
  have o7 : (O : Int) ≤ 9223372036854775808 := by omega
  have o8 : (U : Int) ≤ 9223372036854775808 := by omega
  have dz : ((d : Int) == 0) = false := by rw [beq_eq_false_iff_ne]; exact hd
  have hc1 : ∀ k, ((w.alloc (.cells #[.int .i64 0, .int .i64 0] 25)).drewN k).cell? ⟨0, 0, none⟩ = some (noneV a) := fun k => (HN.out.below (below_drewN (below_new _ _) _)).2
  have HS := Lib.hid hs
  have Z1 := Lib.hid z1
  have Z2 := Lib.hid z2
  have HC := Lib.hid hc1
  clear hs z1 z2 h hg hgb hA hB hd hc1 ob ub
  by_cases c1 : 1000000000 < O
  · have m1 : decide ((1000000000 : Int) < (O : Int)) = true := by simp; omega
    clear hf
    go_enter Tryz.func30, Tryz.ntmps30
    go_wp2_with fail
    refine (Z1.out _).mono ?_; rintro e w1 ⟨rfl, rfl⟩
    go_wp2_with fail
    refine (Z2.out _).mono ?_; rintro e w1 ⟨rfl, rfl⟩
    go_wp2_with fail
    refine (HS.out _).mono ?_; rintro e w1 ⟨rfl, k, rfl⟩
    go_wp2_with fail
    go_quiet (fail)
    have hc2 := HC.out (k + nq)
    go_wp2_with fail
    exact ⟨rfl, rfl, below_drewN (below_new _ _) _⟩
  · have m1 : decide ((1000000000 : Int) < (O : Int)) = false := by simp; omega
    have m2 : decide ((1000000000 : Int) < (U : Int)) = true := by simp; omega
    clear hf
    go_enter Tryz.func30, Tryz.ntmps30
    go_wp2_with fail
    refine (Z1.out _).mono ?_; rintro e w1 ⟨rfl, rfl⟩
    go_wp2_with fail
    refine (Z2.out _).mono ?_; rintro e w1 ⟨rfl, rfl⟩
    go_wp2_with fail
    refine (HS.out _).mono ?_; rintro e w1 ⟨rfl, k, rfl⟩
    go_wp2_with fail
    go_quiet (fail)
    have hc2 := HC.out (k + nq)
    go_wp2_with fail
    exact ⟨rfl, rfl, below_drewN (below_new _ _) _⟩
end Go.Proofs.YtkkhmgcjaehnkaaGreatDoor
