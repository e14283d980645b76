/-
  The contracts of strings.Clone and wire.String, for every string and offset.
-/
import Derived.Test.YtnmjcjkjdbkpnaaDoorWaInt
import Derived.Shelf.Pu.Clone
import Derived.ShutString
import Derived.Laws.DeepStrings4
namespace Go.Proofs.YtnmjcjkjdbkpnaaDoor.Wa
open Go.RowKit Go.Shelf

def cloneRen : Ren := ⟨fun | 25 => 69 | n => n, fun | 0 => 0 | 3 => 3 | 4 => 4 | 5 => 5 | 9 => 9 | 37 => 68 | 47 => 95 | n => n, fun | n => n⟩
theorem cloneLays : LaysPu.n25 Tryd.prog cloneRen := {
  mixed := by kernel_rfl, f25 := by kernel_rfl,
  t0 := by kernel_rfl, a0 := fun _ => by kernel_rfl, z0 := fun _ => by kernel_rfl, v0 := fun _ => by kernel_rfl, i0 := by kernel_rfl,
  t3 := by kernel_rfl, a3 := fun _ => by kernel_rfl, z3 := fun _ => by kernel_rfl, v3 := fun _ => by kernel_rfl, i3 := by kernel_rfl,
  t4 := by kernel_rfl, a4 := fun _ => by kernel_rfl, z4 := fun _ => by kernel_rfl, v4 := fun _ => by kernel_rfl, i4 := by kernel_rfl,
  t5 := by kernel_rfl, a5 := fun _ => by kernel_rfl, z5 := fun _ => by kernel_rfl, v5 := fun _ => by kernel_rfl, i5 := by kernel_rfl,
  t9 := by kernel_rfl, a9 := fun _ => by kernel_rfl, z9 := fun _ => by kernel_rfl, v9 := fun _ => by kernel_rfl, i9 := by kernel_rfl,
  t37 := by kernel_rfl, a37 := fun _ => by kernel_rfl, z37 := fun _ => by kernel_rfl, v37 := fun _ => by kernel_rfl, i37 := by kernel_rfl,
  t47 := by kernel_rfl, a47 := fun _ => by kernel_rfl, z47 := fun _ => by kernel_rfl, v47 := fun _ => by kernel_rfl, i47 := by kernel_rfl }

theorem sliteClone_any (s : ByteArray) (w : World) (h : s.size ≤ 281474976710656) :
    Calls Tryd.prog 69 #[.string s] w fun e w' => e = .returned (.string s) ∧ Below w.heap.size w w' :=
  AnyPu.stringslite_Clone cloneLays s w h
theorem clone_any (s : ByteArray) (w : World) (h : s.size ≤ 281474976710656) :
    Calls Tryd.prog 68 #[.string s] w fun e w' => e = .returned (.string s) ∧ Below w.heap.size w w' := by
  go_enter Tryd.func68, Tryd.ntmps68
  go_wp2_with (go_at_call 69; refine (sliteClone_any s _ h).mono ?_; rintro e w' ⟨rfl, hb⟩)
  go_ret
  exact ⟨rfl, hb⟩

/-- What String answers, as the model's value. -/
def StrEnd (L : List UInt8) (at' : Int) (w : World) (e : Ending) (w' : World) : Prop :=
  e = .returned (.tuple #[bstr (Enc.strV L at').1, .int .i64 (Enc.strV L at').2.1, .int .i64 (Enc.strV L at').2.2]) ∧ Below w.heap.size w w'
theorem str_end {L : List UInt8} {at' y z : Int} {x : List UInt8} {w w' : World} {t : ByteArray} (h : Enc.strV L at' = (x, y, z)) (ht : t.data.toList = x) (hb : Below w.heap.size w w') :
    StrEnd L at' w (.returned (.tuple #[.string t, .int .i64 y, .int .i64 z])) w' := by
  unfold StrEnd bstr; rw [h]; subst ht; exact ⟨by simp, hb⟩

set_option maxRecDepth 100000 in
set_option maxHeartbeats 400000 in
theorem str_any (s : ByteArray) (at' : Int) (w : World) (hs : s.size ≤ maxLen) :
    Calls Tryd.prog 63 #[.string s, .int .i64 at'] w (StrEnd s.data.toList at' w) := by
  have hc := int_any s at' w hs
  obtain ⟨n, st, er, hi⟩ : ∃ n st er, Enc.intV s.data.toList at' = (n, st, er) := ⟨_, _, _, rfl⟩
  have hc' : Calls Tryd.prog 62 #[.string s, .int .i64 at'] w fun e w' => e = .returned (.tuple #[.int .i64 n, .int .i64 st, .int .i64 er]) ∧ w = w' := hc.mono fun e w' h => by unfold IntEnd at h; rw [hi] at h; exact h
  obtain ⟨b1, b2, b3, b4, b5, b6⟩ := Enc.intV_bd hi
  rw [toList_len] at b4
  unfold maxLen at hs
  have HC := Lib.hid hc'
  clear hc hc'
  by_cases he : er = 0
  · subst he
    by_cases h0 : n < 0
    · have hv : Enc.strV s.data.toList at' = ([], 0, 10) := by
        unfold Enc.strV; rw [hi]; simp only; rw [if_neg (by simp), if_pos (.inl h0)]
      have HV := Lib.hid hv; clear hv hi
      go_enter Tryd.func63, Tryd.ntmps63
      go_wp2_with (go_at_call 62; refine HC.out.mono ?_; rintro e w' ⟨rfl, rfl⟩)
      go_ret3
      exact str_end HV.out rfl (Below.refl _ _)
    by_cases h1 : 65536 < n
    · have hv : Enc.strV s.data.toList at' = ([], 0, 10) := by
        unfold Enc.strV; rw [hi]; simp only; rw [if_neg (by simp), if_pos (.inr (.inl h1))]
      have HV := Lib.hid hv; clear hv hi
      have d0 : decide (n < 0) = false := by simp; omega
      go_enter Tryd.func63, Tryd.ntmps63
      go_wp2_with (go_at_call 62; refine HC.out.mono ?_; rintro e w' ⟨rfl, rfl⟩)
      go_ret3
      exact str_end HV.out rfl (Below.refl _ _)
    have d0 : decide (n < 0) = false := by simp; omega
    have d1 : decide (65536 < n) = false := by simp; omega
    by_cases h2 : (s.size : Int) - st < n
    · have hv : Enc.strV s.data.toList at' = ([], 0, 10) := by
        unfold Enc.strV; rw [hi]; simp only; rw [if_neg (by simp), if_pos (.inr (.inr (by rw [toList_len]; exact h2)))]
      have HV := Lib.hid hv; clear hv hi
      go_enter Tryd.func63, Tryd.ntmps63
      go_wp2_with (go_at_call 62; refine HC.out.mono ?_; rintro e w' ⟨rfl, rfl⟩)
      go_ret3
      exact str_end HV.out rfl (Below.refl _ _)
    · have hv : Enc.strV s.data.toList at' = ((s.data.toList.drop st.toNat).take n.toNat, st + n, 0) := by
        unfold Enc.strV; rw [hi]; simp only; rw [if_neg (by simp), if_neg (by rw [toList_len]; omega)]
      have HV := Lib.hid hv; clear hv hi
      obtain ⟨a, rfl⟩ := Int.eq_ofNat_of_zero_le b3
      obtain ⟨m, rfl⟩ := Int.eq_ofNat_of_zero_le (show 0 ≤ n by omega)
      have ham : a + m ≤ s.size := by omega
      have hm : m ≤ 65536 := by omega
      clear h0 h1 h2
      have d2 : decide ((s.size : Int) - (a : Int) < (m : Int)) = false := by simp; omega
      go_enter Tryd.func63, Tryd.ntmps63
      go_wp2_with (first | (go_at_call 62; refine HC.out.mono ?_; rintro e w' ⟨rfl, rfl⟩) | (go_at_call 68; refine (clone_any _ _ (by rw [ByteArray.size_extract]; omega)).mono ?_; rintro e w' ⟨rfl, hb⟩))
      go_ret3
      exact str_end HV.out (by rw [Lib.extract_data, Int.toNat_natCast, Int.toNat_natCast, Nat.add_sub_cancel_left]) hb
  · have hv : Enc.strV s.data.toList at' = ([], 0, er) := by
      unfold Enc.strV; rw [hi]; simp only; rw [if_pos he]
    have HV := Lib.hid hv; clear hv hi
    have de : (er == 0) = false := by simpa using he
    go_enter Tryd.func63, Tryd.ntmps63
    go_wp2_with (go_at_call 62; refine HC.out.mono ?_; rintro e w' ⟨rfl, rfl⟩)
    go_ret3
    exact str_end HV.out rfl (Below.refl _ _)
end Go.Proofs.YtnmjcjkjdbkpnaaDoor.Wa

