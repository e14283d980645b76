/-
  The contract of wire.PutString, for every string.
-/
import Derived.Test.YtnmjcjkjdbkpnaaDoorWaPutInt
namespace Go.Proofs.YtnmjcjkjdbkpnaaDoor.Wa
open Go.RowKit

/-- What PutString answers. -/
def PstrEnd (L : List UInt8) (w : World) (e : Ending) (w' : World) : Prop :=
  e = .returned (.tuple #[bstr (Enc.pstrBytes L), .int .i64 (Enc.pstrErr L)]) ∧ Below w.heap.size w w'

theorem pstr_any (s : ByteArray) (w : World) (hs : s.size ≤ maxLen) :
    Calls Tryd.prog 46 #[.string s] w (PstrEnd s.data.toList w) := by
  unfold maxLen at hs
  by_cases h : 65536 < s.size
  · have hp : PstrEnd s.data.toList w (.returned (.tuple #[.string ⟨#[]⟩, .int .i64 10])) w := by
      unfold PstrEnd bstr Enc.pstrBytes Enc.pstrErr
      have h' : 65536 < s.data.toList.length := by simpa using h
      rw [if_pos h', if_pos h']; exact ⟨rfl, Below.refl _ _⟩
    have HP := Lib.hid hp; clear hp
    go_enter Tryd.func46, Tryd.ntmps46
    go_wp2
    go_ret2
    exact HP.out
  · have hc := (putInt_any (s.size : Int) w).mono (R' := fun e w' => e = .returned (.tuple #[.string ⟨(Enc.enc (Enc.zig s.size)).toArray⟩, .int .i64 0]) ∧ Below w.heap.size w w') fun e w' h' => by
      unfold PutEnd bstr at h'
      rw [Enc.putBytes_in (by omega) (by omega), Enc.putErr_in (by omega) (by omega)] at h'; exact h'
    have HC := Lib.hid hc; clear hc
    obtain ⟨t, ht⟩ : ∃ t : ByteArray, t = ⟨(Enc.enc (Enc.zig s.size)).toArray⟩ := ⟨_, rfl⟩
    have hl : t.size ≤ 9 := by
      have h9 := Enc.enc_le (Enc.zig s.size)
      have e : t.size = (Enc.enc (Enc.zig s.size)).length := by rw [ht]; exact List.size_toArray
      omega
    have hp : ∀ w', Below w.heap.size w w' → PstrEnd s.data.toList w (.returned (.tuple #[.string (t ++ s), .int .i64 0])) w' := by
      intro w' hb
      unfold PstrEnd bstr Enc.pstrBytes Enc.pstrErr
      have h' : ¬ 65536 < s.data.toList.length := by simpa using h
      rw [if_neg h', if_neg h', toList_size]
      refine ⟨?_, hb⟩
      rw [show t ++ s = ⟨(Enc.enc (Enc.zig s.size) ++ s.data.toList).toArray⟩ from ?_]
      apply ByteArray.ext
      rw [ByteArray.data_append, ht]
      simp
    have HP := Lib.hid hp; clear hp
    rw [← ht] at HC
    clear ht
    go_enter Tryd.func46, Tryd.ntmps46
    go_wp2_with (go_at_call 49; refine HC.out.mono ?_; rintro e w' ⟨rfl, hb⟩)
    go_ret2
    exact HP.out _ hb
where
  toList_size : s.data.toList.length = s.size := by simp
end Go.Proofs.YtnmjcjkjdbkpnaaDoor.Wa

