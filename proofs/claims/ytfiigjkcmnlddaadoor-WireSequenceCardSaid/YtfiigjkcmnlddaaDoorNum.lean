/-
  The contract of the statements' NumberFrom, for every integer.
-/
import Derived.Test.YtfiigjkcmnlddaaDoorSmall
import Derived.Deep.QuietTactic
import Derived.BigQuiet
namespace Go.Proofs.YtfiigjkcmnlddaaDoor
open Go.RowKit

def numTab : List Int := [64, 128, 8192, 16384, 1073741824, 36028797018963968, 576460752303423488, 2]
/-- What NumberFrom answers. -/
def numS (c : Int) : Int :=
  if pickS c 16 < 8 then pickS (pickS c 4611686018427387904 / 8) (numTab.getD (pickS c 8).toNat 0) else - pickS (pickS c 4611686018427387904 / 8) (numTab.getD (pickS c 8).toNat 0)
theorem numTab_bd (i : Nat) (h : i < 8) : 1 ≤ numTab.getD i 0 ∧ numTab.getD i 0 ≤ 576460752303423488 := by
  have : ∀ i : Fin 8, 1 ≤ numTab.getD i.val 0 ∧ numTab.getD i.val 0 ≤ 576460752303423488 := by decide
  exact this ⟨i, h⟩
theorem numS_bd (c : Int) : -576460752303423488 < numS c ∧ numS c < 576460752303423488 := by
  obtain ⟨a, b⟩ := pickS_bd c 8 (by omega)
  obtain ⟨t1, t2⟩ := numTab_bd (pickS c 8).toNat (by omega)
  obtain ⟨p1, p2⟩ := pickS_bd (pickS c 4611686018427387904 / 8) _ t1
  unfold numS
  split <;> omega

set_option maxHeartbeats 400000 in
theorem num_at (c : Int) (w : World) (h1 : -9223372036854775808 ≤ c) (h2 : c ≤ 9223372036854775807) (i : Nat) (t : Int) (e8 : pickS c 8 = i) (et : numTab[i]? = some t) :
    Calls Tryd.prog 11 #[.int .i64 c] w fun e w' => e = .returned (.int .i64 (numS c)) ∧ Below w.heap.size w w' := by
  have b1 := pickS_bd c 4611686018427387904 (by omega)
  have b16 := pickS_bd c 16 (by omega)
  have hi : i < 8 := by
    have := (List.getElem?_eq_some_iff.1 et).1
    simpa [numTab] using this
  have hg : numTab.getD i 0 = t := by rw [List.getD, et]; rfl
  have ht := numTab_bd i hi
  rw [hg] at ht
  have b3 := pickS_bd (pickS c 4611686018427387904 / 8) t ht.1
  have hn : numS c = if pickS c 16 < 8 then pickS (pickS c 4611686018427387904 / 8) t else - pickS (pickS c 4611686018427387904 / 8) t := by
    unfold numS; rw [e8, Int.toNat_natCast, hg]
  obtain ⟨x, ex⟩ : ∃ x, x = pickS c 4611686018427387904 := ⟨_, rfl⟩
  obtain ⟨y, ey⟩ : ∃ y, y = pickS c 16 := ⟨_, rfl⟩
  obtain ⟨z, ez⟩ : ∃ z, z = pickS (x / 8) t := ⟨_, rfl⟩
  rw [← ex] at hn b1 b3
  rw [← ey] at hn b16
  rw [← ez] at hn b3
  have p1 : ∀ w, Calls Tryd.prog 14 #[.int .i64 c, .int .i64 4611686018427387904] w fun e w' => e = .returned (.int .i64 x) ∧ w = w' := fun w => by rw [ex]; exact pick_any _ _ _ h1 h2 (by omega) (by omega)
  have p2 : ∀ w, Calls Tryd.prog 14 #[.int .i64 c, .int .i64 8] w fun e w' => e = .returned (.int .i64 (i : Int)) ∧ w = w' := fun w => by rw [← e8]; exact pick_any _ _ _ h1 h2 (by omega) (by omega)
  have p3 : ∀ w, Calls Tryd.prog 14 #[.int .i64 c, .int .i64 16] w fun e w' => e = .returned (.int .i64 y) ∧ w = w' := fun w => by rw [ey]; exact pick_any _ _ _ h1 h2 (by omega) (by omega)
  have p4 : ∀ w, Calls Tryd.prog 14 #[.int .i64 (x / 8), .int .i64 t] w fun e w' => e = .returned (.int .i64 z) ∧ w = w' := fun w => by rw [ez]; exact pick_any _ _ _ (by omega) (by omega) (by omega) (by omega)
  have HN := Lib.hid hn
  have P1 := Lib.hid p1; have P2 := Lib.hid p2; have P3 := Lib.hid p3; have P4 := Lib.hid p4
  clear hn p1 p2 p3 p4 ex ey ez e8 hg
  have hA : ([.int .i64 64, .int .i64 128, .int .i64 8192, .int .i64 16384, .int .i64 1073741824, .int .i64 36028797018963968, .int .i64 576460752303423488, .int .i64 2] : List Value)[i]'(by simpa using hi) = .int .i64 t := by
    rcases (by omega : i = 0 ∨ i = 1 ∨ i = 2 ∨ i = 3 ∨ i = 4 ∨ i = 5 ∨ i = 6 ∨ i = 7) with rfl | rfl | rfl | rfl | rfl | rfl | rfl | rfl <;> (simp [numTab] at et ⊢; exact et)
  clear et
  by_cases h : y < 8
  all_goals
    go_enter Tryd.func11, Tryd.ntmps11
    go_wp2_with fail
    refine (P1.out _).mono ?_; rintro e w' ⟨rfl, rfl⟩
    go_wp2_with fail
    refine (P2.out _).mono ?_; rintro e w' ⟨rfl, rfl⟩
    go_wp2_with fail
    refine (P4.out _).mono ?_; rintro e w' ⟨rfl, rfl⟩
    go_wp2_with fail
    refine (P3.out _).mono ?_; rintro e w' ⟨rfl, rfl⟩
    go_wp2_with fail
    go_ret
    refine ⟨ret_int ?_, (Below.refl _ _).alloc (Nat.le_refl _) _⟩
    rw [HN.out]
    first | rw [if_pos (by omega)] | rw [if_neg (by omega)]

theorem num_any (c : Int) (w : World) (h1 : -9223372036854775808 ≤ c) (h2 : c ≤ 9223372036854775807) :
    Calls Tryd.prog 11 #[.int .i64 c] w fun e w' => e = .returned (.int .i64 (numS c)) ∧ Below w.heap.size w w' := by
  have b8 := pickS_bd c 8 (by omega)
  obtain ⟨i, hi⟩ := Int.eq_ofNat_of_zero_le b8.1
  have hlt : i < numTab.length := by have : numTab.length = 8 := rfl; omega
  exact num_at c w h1 h2 i numTab[i] hi (List.getElem?_eq_getElem hlt)
end Go.Proofs.YtfiigjkcmnlddaaDoor
