/-
  The contract of the statements' sane: the fixed examples hold. Condition: the table reads as the program's text lays it. Also: each contract with its answers as plain variables.
-/
import Derived.Test.YtfiigjkcmnlddaaDoorPutString
import Derived.Test.YtfiigjkcmnlddaaDoorString
import Derived.Test.YtfiigjkcmnlddaaDoorSum
import Derived.Test.YtfiigjkcmnlddaaDoorNum
namespace Go.Proofs.YtfiigjkcmnlddaaDoor
open Go.RowKit

theorem put_at (n : Int) (t : ByteArray) (x : Int) (w : World) (ht : t.data.toList = Enc.putBytes n) (hx : Enc.putErr n = x) :
    Calls Tryd.prog 12 #[.int .i64 n] w fun e w' => e = .returned (.tuple #[.string t, .int .i64 x]) ∧ Below w.heap.size w w' :=
  (putInt_any n w).mono fun e w' h => by
    unfold PutEnd bstr at h
    rw [← ht, hx] at h
    simpa using h
theorem pstr_at (s t : ByteArray) (x : Int) (w : World) (hs : s.size ≤ maxLen) (ht : t.data.toList = Enc.pstrBytes s.data.toList) (hx : Enc.pstrErr s.data.toList = x) :
    Calls Tryd.prog 19 #[.string s] w fun e w' => e = .returned (.tuple #[.string t, .int .i64 x]) ∧ Below w.heap.size w w' :=
  (pstr_any s w hs).mono fun e w' h => by
    unfold PstrEnd bstr at h
    rw [← ht, hx] at h
    simpa using h
theorem int_at (s : ByteArray) (k n next x : Int) (w : World) (hs : s.size ≤ maxLen) (h : Enc.intV s.data.toList k = (n, next, x)) :
    Calls Tryd.prog 15 #[.string s, .int .i64 k] w fun e w' => e = .returned (.tuple #[.int .i64 n, .int .i64 next, .int .i64 x]) ∧ w = w' :=
  (int_any s k w hs).mono fun e w' h' => by
    unfold IntEnd at h'
    rw [h] at h'
    exact h'
theorem str_at (s t : ByteArray) (k next x : Int) (w : World) (hs : s.size ≤ maxLen) (h : Enc.strV s.data.toList k = (t.data.toList, next, x)) :
    Calls Tryd.prog 17 #[.string s, .int .i64 k] w fun e w' => e = .returned (.tuple #[.string t, .int .i64 next, .int .i64 x]) ∧ Below w.heap.size w w' :=
  (str_any s k w hs).mono fun e w' h' => by
    unfold StrEnd bstr at h'
    rw [h] at h'
    simpa using h'
theorem sum_at (s : ByteArray) (x : Int) (w : World) (hs : s.size ≤ maxLen) (ht : Tab w) (h : ((Crc.sum s.data.toList : Nat) : Int) = x) :
    Calls Tryd.prog 21 #[.string s] w fun e w' => e = .returned (.int .i64 x) ∧ w = w' := by
  rw [← h]; exact sum_any s w hs ht

theorem below_step {w w1 w2 : World} (a : Below w.heap.size w w1) (b : Below w1.heap.size w1 w2) : Below w.heap.size w w2 := a.trans (b.mono a.size)
theorem sum_example : ((Crc.sum [49, 50, 51, 52, 53, 54, 55, 56, 57] : Nat) : Int) = 3808858755 := by decide +kernel

set_option maxRecDepth 100000 in
set_option maxHeartbeats 1000000 in
theorem sane_any (w : World) (ht : Tab w) :
    Calls Tryd.prog 10 #[] w fun e w' => e = .returned (.bool true) ∧ Below w.heap.size w w' := by
  have HT := Lib.hid ht; clear ht
  go_enter Tryd.func10, Tryd.ntmps10
  go_wp2_with fail
  refine (put_at (-64) ⟨#[127]⟩ 0 _ (by decide) (by decide)).mono ?_; rintro e w1 ⟨rfl, hb1⟩
  go_wp2_with fail
  refine (put_at 64 ⟨#[128, 1]⟩ 0 _ (by decide) (by decide)).mono ?_; rintro e w2 ⟨rfl, hb2⟩
  go_wp2_with fail
  refine (int_at ⟨#[97, 172, 2, 98]⟩ 1 150 3 0 _ (by decide) (by decide)).mono ?_; rintro e w3 ⟨rfl, rfl⟩
  go_wp2_with fail
  refine (int_at ⟨#[128, 0]⟩ 0 0 0 10 _ (by decide) (by decide)).mono ?_; rintro e w4 ⟨rfl, rfl⟩
  go_wp2_with fail
  refine (pstr_at ⟨#[97, 98]⟩ ⟨#[4, 97, 98]⟩ 0 _ (by decide) (by decide) (by decide)).mono ?_; rintro e w5 ⟨rfl, hb5⟩
  go_wp2_with fail
  refine (str_at ⟨#[4, 97, 98, 99]⟩ ⟨#[97, 98]⟩ 0 3 0 _ (by decide) (by decide)).mono ?_; rintro e w6 ⟨rfl, hb6⟩
  go_wp2_with fail
  refine (str_at ⟨#[4, 97]⟩ ⟨#[]⟩ 0 0 10 _ (by decide) (by decide)).mono ?_; rintro e w7 ⟨rfl, hb7⟩
  go_wp2_with fail
  refine (put_at 4611686018427387904 ⟨#[]⟩ 10 _ (by decide) (by decide)).mono ?_; rintro e w8 ⟨rfl, hb8⟩
  go_wp2_with fail
  refine (int_at ⟨#[]⟩ 1 0 0 2 _ (by decide) (by decide)).mono ?_; rintro e w9 ⟨rfl, rfl⟩
  go_wp2_with fail
  have hb := below_step (below_step (below_step (below_step (below_step hb1 hb2) hb5) hb6) hb7) hb8
  refine (sum_at ⟨#[49, 50, 51, 52, 53, 54, 55, 56, 57]⟩ 3808858755 _ (by decide) (HT.out.below hb) sum_example).mono ?_; rintro e w9 ⟨rfl, rfl⟩
  go_wp2_with fail
  go_ret
  exact ⟨rfl, hb⟩
end Go.Proofs.YtfiigjkcmnlddaaDoor
