/-
  The contract of wire.Int, for every string and offset.
-/
import Derived.Test.YtnmjcjkjdbkpnaaDoorWaJoin
namespace Go.Proofs.YtnmjcjkjdbkpnaaDoor.Wa
open Go.RowKit

theorem tup3 {a b c a' b' c' : Value} (ha : a = a') (hb : b = b') (hc : c = c') : Ending.returned (.tuple #[a, b, c]) = .returned (.tuple #[a', b', c']) := by rw [ha, hb, hc]
theorem vint {k : IntKind} {a b : Int} (h : a = b) : Value.int k a = .int k b := by rw [h]

/-- What Int answers, as the model's value. -/
def IntEnd (L : List UInt8) (at' : Int) (w : World) (e : Ending) (w' : World) : Prop :=
  e = .returned (.tuple #[.int .i64 (Enc.intV L at').1, .int .i64 (Enc.intV L at').2.1, .int .i64 (Enc.intV L at').2.2]) ∧ w = w'
theorem int_end {L : List UInt8} {at' x y z : Int} {w : World} (h : Enc.intV L at' = (x, y, z)) :
    IntEnd L at' w (.returned (.tuple #[.int .i64 x, .int .i64 y, .int .i64 z])) w := by
  unfold IntEnd; rw [h]; exact ⟨rfl, rfl⟩

theorem intV_of_dec {L : List UInt8} {a z m : Nat} {b : UInt8} (ha : a ≤ L.length) (h : Enc.dec 9 (L.drop a) = some (z, m, b)) (hb : b ≠ 0 ∨ m = 1) (hz : z ≤ 9223372036854775806) :
    Enc.intV L a = (Enc.unzig z, (a : Int) + m, 0) := by
  unfold Enc.intV Enc.decOK
  rw [if_neg (by omega), Int.toNat_natCast, h]
  simp only
  rw [if_pos ⟨hb, hz⟩]
theorem intV_of_bad {L : List UInt8} {a z m : Nat} {b : UInt8} (ha : a ≤ L.length) (h : Enc.dec 9 (L.drop a) = some (z, m, b)) (hb : ¬ ((b ≠ 0 ∨ m = 1) ∧ z ≤ 9223372036854775806)) :
    Enc.intV L a = (0, 0, 10) := by
  unfold Enc.intV Enc.decOK
  rw [if_neg (by omega), Int.toNat_natCast, h]
  simp only
  rw [if_neg hb]
theorem intV_of_none {L : List UInt8} {a : Nat} (ha : a ≤ L.length) (h : Enc.dec 9 (L.drop a) = none) :
    Enc.intV L a = (0, 0, 10) := by
  unfold Enc.intV Enc.decOK
  rw [if_neg (by omega), Int.toNat_natCast, h]

/-- The three ways in which join ends, seen from Int. -/
theorem joinV_cases (L : List UInt8) (a : Nat) (ha : a ≤ L.length) :
    (∃ z : Nat, ∃ y : Int, joinV (L.drop a) a = (z, y, true) ∧ z ≤ 9223372036854775806 ∧ 0 ≤ y ∧ y ≤ L.length ∧ Enc.intV L a = (Enc.unzig z, y, 0)) ∨
    (∃ z : Nat, ∃ y : Int, joinV (L.drop a) a = (z, y, true) ∧ 9223372036854775806 < z ∧ z < 9223372036854775808 ∧ Enc.intV L a = (0, 0, 10)) ∨
    (∃ z : Nat, ∃ y : Int, joinV (L.drop a) a = (z, y, false) ∧ Enc.intV L a = (0, 0, 10)) := by
  cases h : Enc.dec 9 (L.drop a) with
  | none => exact .inr (.inr ⟨0, 0, by unfold joinV; rw [h], intV_of_none ha h⟩)
  | some x =>
    obtain ⟨z, m, b⟩ := x
    by_cases hb : b ≠ 0 ∨ m = 1
    · obtain ⟨hz, _, ⟨r, hr⟩, hm, _, _⟩ := Enc.encF_dec 8 _ _ _ _ h hb
      rw [Enc.pow9] at hz
      have hl := congrArg List.length hr
      simp at hl
      by_cases hz' : z ≤ 9223372036854775806
      · exact .inl ⟨z, (a : Int) + m, by unfold joinV; rw [h]; simp [hb], hz', by omega, by omega, intV_of_dec ha h hb hz'⟩
      · exact .inr (.inl ⟨z, (a : Int) + m, by unfold joinV; rw [h]; simp [hb], by omega, hz, intV_of_bad ha h (fun c => hz' c.2)⟩)
    · exact .inr (.inr ⟨z, (a : Int) + m, by unfold joinV; rw [h]; simp only [hb]; rfl, intV_of_bad ha h (fun c => hb c.1)⟩)

set_option maxRecDepth 100000 in
set_option maxHeartbeats 400000 in
theorem int_any (s : ByteArray) (at' : Int) (w : World) (hs : s.size ≤ maxLen) :
    Calls Tryd.prog 62 #[.string s, .int .i64 at'] w (IntEnd s.data.toList at' w) := by
  by_cases h0 : at' < 0
  · go_enter Tryd.func62, Tryd.ntmps62
    go_wp2
    go_ret3
    exact int_end (by unfold Enc.intV; rw [if_pos (.inl h0)])
  by_cases h1 : (s.size : Int) < at'
  · go_enter Tryd.func62, Tryd.ntmps62
    go_wp2
    go_ret3
    exact int_end (by unfold Enc.intV; rw [if_pos (.inr (by simpa using h1))])
  obtain ⟨a, rfl⟩ := Int.eq_ofNat_of_zero_le (show 0 ≤ at' by omega)
  have ha : a ≤ s.size := by omega
  have hd0 : decide ((a : Int) < 0) = false := by simp
  have hc := join_any s a w hs ha
  have hs' := hs
  unfold maxLen at hs'
  rcases joinV_cases s.data.toList a (by simpa using ha) with ⟨z, y, hj, hz, hy0, hy1, hv⟩ | ⟨z, y, hj, hz, hz2, hv⟩ | ⟨z, y, hj, hv⟩
  · have hc' : Calls Tryd.prog 66 #[.string s, .int .i64 (a : Int)] w fun e w' => e = .returned (.tuple #[.int .u64 (z : Int), .int .i64 y, .bool true]) ∧ w = w' := hc.mono fun e w' h => by unfold JoinEnd at h; rw [hj] at h; exact h
    have HV := Lib.hid hv; have HC := Lib.hid hc'
    clear hc hv hj hc' hs
    simp at hy1
    go_enter Tryd.func62, Tryd.ntmps62
    go_wp2_with (first | (go_at_call 66; refine HC.out.mono ?_; rintro e w' ⟨rfl, rfl⟩) | (go_at_call 67; refine (unfold_any z _ (by omega)).mono ?_; rintro e w' ⟨rfl, rfl⟩))
    go_ret3
    exact int_end HV.out
  · have hc' : Calls Tryd.prog 66 #[.string s, .int .i64 (a : Int)] w fun e w' => e = .returned (.tuple #[.int .u64 (z : Int), .int .i64 y, .bool true]) ∧ w = w' := hc.mono fun e w' h => by unfold JoinEnd at h; rw [hj] at h; exact h
    have HV := Lib.hid hv; have HC := Lib.hid hc'
    clear hc hv hj hc' hs
    go_enter Tryd.func62, Tryd.ntmps62
    go_wp2_with (first | (go_at_call 66; refine HC.out.mono ?_; rintro e w' ⟨rfl, rfl⟩))
    go_ret3
    exact int_end HV.out
  · have hc' : Calls Tryd.prog 66 #[.string s, .int .i64 (a : Int)] w fun e w' => e = .returned (.tuple #[.int .u64 (z : Int), .int .i64 y, .bool false]) ∧ w = w' := hc.mono fun e w' h => by unfold JoinEnd at h; rw [hj] at h; exact h
    have HV := Lib.hid hv; have HC := Lib.hid hc'
    clear hc hv hj hc' hs
    go_enter Tryd.func62, Tryd.ntmps62
    go_wp2_with (first | (go_at_call 66; refine HC.out.mono ?_; rintro e w' ⟨rfl, rfl⟩))
    go_ret3
    exact int_end HV.out
end Go.Proofs.YtnmjcjkjdbkpnaaDoor.Wa

