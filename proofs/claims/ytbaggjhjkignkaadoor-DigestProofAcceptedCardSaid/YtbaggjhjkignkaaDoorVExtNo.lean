/-
  The package's VerifyExtension for numbers outside the list, for strings that are no digests, and for a beginning of no entries.
-/
import Derived.Test.YtbaggjhjkignkaaDoorVExt
namespace Go.Proofs.YtbaggjhjkignkaaDoor
open Go.RowKit Go.Shelf Tree

attribute [local go_sem] Oper.semAt_some

theorem list_eq (x y : ByteArray) : (x.toList == y.toList) = decide (x = y) := by
  by_cases h : x = y
  · subst h; simp
  · rw [decide_eq_false h]
    exact beq_eq_false_iff_ne.2 (fun e => h (toList_iff.1 e))

set_option maxRecDepth 100000 in
set_option maxHeartbeats 1600000 in
theorem vext_no (old root : ByteArray) (m n : Int) (P : List ByteArray) (a : Option Addr) (c : Nat) (w : World) (hA : StrA w a c P) (hi : m < 0 ∨ n < m ∨ digsB [old, root] = false ∨ digsB P = false) :
    Calls Tryd.prog 26 #[.string old, .int .i64 m, .string root, .int .i64 n, .slice a P.length c] w (BoolEnd false w) := by
  have hb1 : Below w.heap.size w (w.alloc (.cells #[.string old, .string root] 9)) := (Below.refl _ _).alloc (Nat.le_refl _) _
  have HC1 := Lib.hid (digs_any _ 2 [old, root] _ (strA_two w old root))
  have HC2 := Lib.hid (digs_any a c P _ (hA.below hb1))
  have HE := Lib.hid (show BoolEnd false w (.returned (.bool false)) w from ⟨rfl, Below.refl _ _⟩)
  have HE1 := Lib.hid (show BoolEnd false w (.returned (.bool false)) (w.alloc (.cells #[.string old, .string root] 9)) from ⟨rfl, hb1⟩)
  clear hb1
  by_cases h0 : m < 0
  · have hd0 : decide (m < 0) = true := by simp [h0]
    go_enter Tryd.func26, Tryd.ntmps26
    go_wp2_with fail
    go_ret
    exact HE.out
  · have hd0 : decide (m < 0) = false := by simp [h0]
    by_cases h1 : n < m
    · have hd1 : decide (n < m) = true := by simp [h1]
      go_enter Tryd.func26, Tryd.ntmps26
      go_wp2_with fail
      go_ret
      exact HE.out
    · have hd1 : decide (n < m) = false := by simp [h1]
      cases h2 : digsB [old, root] with
      | false =>
        rw [h2] at HC1
        go_enter Tryd.func26, Tryd.ntmps26
        go_wp2_with (go_at_call 38; refine HC1.out.mono ?_; rintro e w' ⟨rfl, rfl⟩)
        go_ret
        exact HE1.out
      | true =>
        have h3 : digsB P = false := by
          rcases hi with h | h | h | h
          · exact absurd h h0
          · exact absurd h h1
          · rw [h2] at h; cases h
          · exact h
        rw [h2] at HC1
        rw [h3] at HC2
        go_enter Tryd.func26, Tryd.ntmps26
        go_wp2_with (go_at_call 38; (first | refine HC1.out.mono ?_ | refine HC2.out.mono ?_); rintro e w' ⟨rfl, rfl⟩)
        go_ret
        exact HE1.out

set_option maxRecDepth 100000 in
set_option maxHeartbeats 1600000 in
theorem vext_zero (old root : ByteArray) (n : Nat) (P : List ByteArray) (a : Option Addr) (c : Nat) (w : World) (ht : Tab w) (hA : StrA w a c P) (hdo : digsB [old, root] = true) (hd : digsB P = true) :
    Calls Tryd.prog 26 #[.string old, .int .i64 (0 : Nat), .string root, .int .i64 n, .slice a P.length c] w (BoolEnd (decide (P.length = 0) && decide (old = Sha.shaS ⟨#[]⟩)) w) := by
  have hb1 : Below w.heap.size w (w.alloc (.cells #[.string old, .string root] 9)) := (Below.refl _ _).alloc (Nat.le_refl _) _
  have hc1 := digs_any _ 2 [old, root] _ (strA_two w old root)
  have hc2 := digs_any a c P _ (hA.below hb1)
  rw [hdo] at hc1
  rw [hd] at hc2
  have hr := root_any 0 [] none 0 _ (Nat.le_refl _) (ht.below hb1) ⟨Nat.le_refl _, by decide, fun i hi => absurd hi (Nat.not_lt_zero _)⟩ (fun x hx => by cases hx)
  rw [rootS_nil] at hr
  have HC1 := Lib.hid hc1
  have HC2 := Lib.hid hc2
  have HR := Lib.hid hr
  have hd0 : decide (((0 : Nat) : Int) < 0) = false := by simp
  have hd1 : decide ((n : Int) < ((0 : Nat) : Int)) = false := by simp
  have HB := Lib.hid hb1
  clear hb1 hc1 hc2 hr hdo hd hA ht
  have hn0 : ¬ ((n : Int) < 0) := by omega
  by_cases hp : P.length = 0
  · have hz : ((P.length : Int) == 0) = true := by simp [hp]
    have HP := Lib.hid hp
    clear hp
    go_enter Tryd.func26, Tryd.ntmps26
    go_wp2_with (first | (go_at_call 38; (first | refine HC1.out.mono ?_ | refine HC2.out.mono ?_); rintro e w' ⟨rfl, rfl⟩) | (go_at_call 21; refine HR.out.mono ?_; rintro e w' ⟨rfl, hb⟩))
    rename_i hb
    have HB9 := Lib.hid (below_step HB.out hb)
    clear hb
    go_ret
    rw [decide_eq_true HP.out, Bool.true_and, ← list_eq]
    exact ⟨rfl, HB9.out⟩
  · have hz : ((P.length : Int) == 0) = false := by simp [hp]
    go_enter Tryd.func26, Tryd.ntmps26
    go_wp2_with (go_at_call 38; (first | refine HC1.out.mono ?_ | refine HC2.out.mono ?_); rintro e w' ⟨rfl, rfl⟩)
    go_ret
    rw [decide_eq_false hp]
    exact ⟨rfl, HB.out⟩
end Go.Proofs.YtbaggjhjkignkaaDoor

