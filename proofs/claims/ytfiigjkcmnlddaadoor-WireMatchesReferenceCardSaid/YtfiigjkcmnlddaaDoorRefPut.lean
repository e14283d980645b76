/-
  The contracts of the reference implementation's PutInt and PutString.
-/
import Derived.Test.YtfiigjkcmnlddaaDoorPutString
import Derived.LoopTactic
namespace Go.Proofs.YtfiigjkcmnlddaaDoor
open Go.RowKit

theorem row_last {W : World} {n₀ r z : Nat} {v : Value} {pre : List UInt8} (h : W.ownsRow n₀ 5 1 v (pre.length + 1) (bytesV pre ++ [.int .u8 (r : Int)])) (hr : r < 128) (he : Enc.enc z = pre ++ [UInt8.ofNat r]) :
    W.ownsRow n₀ 5 1 v (Enc.enc z).length (bytesV (Enc.enc z)) := by
  have e : bytesV (Enc.enc z) = bytesV pre ++ [.int .u8 (r : Int)] := by
    rw [he]
    unfold bytesV
    rw [List.map_append, List.map_cons, List.map_nil, Enc.toNat_small (by omega)]
  rw [e, he, List.length_append]
  exact h

set_option maxRecDepth 100000 in
set_option maxHeartbeats 2000000 in
theorem refPutInt_yes (n : Int) (w : World) (hlo : -4611686018427387903 ≤ n) (hhi : n ≤ 4611686018427387903) :
    Calls Tryd.prog 13 #[.int .i64 n] w (PutEnd n w) := by
  have hp : ∀ w', Below w.heap.size w w' → PutEnd n w (.returned (.tuple #[.string ⟨(Enc.enc (Enc.zig n)).toArray⟩, .int .i64 0])) w' := by
    intro w' hb
    unfold PutEnd bstr; rw [Enc.putBytes_in hlo hhi, Enc.putErr_in hlo hhi]; exact ⟨rfl, hb⟩
  have HP := Lib.hid hp; clear hp
  have hz := Enc.zig_le hlo hhi
  have hd0 : decide (n < -4611686018427387903) = false := by simp; omega
  have hd1 : decide (4611686018427387903 < n) = false := by simp; omega
  obtain ⟨i0, hi, hz0, hz1, hz2⟩ := info_parts info_u8
  go_enter Tryd.func13, Tryd.ntmps13
  go_wp2_with (go_at_call 25; refine (zigzag_any n _ hlo hhi).mono ?_; rintro e w' ⟨rfl, rfl⟩)
  go_loopw [4, 5] (fun z v wr => ∃ (pre : List UInt8) (k r : Nat), z = .int .u64 (r : Int) ∧ Left (Enc.zig n) pre k r ∧ r < 9223372036854775808 ∧ wr.ownsRow w.heap.size 5 1 v pre.length (bytesV pre) ∧ Below w.heap.size w wr) (fun z _ _ => (intOf z).toNat)
  case atStart => exact ⟨[], 8, Enc.zig n, rfl, Left.start (by omega), by omega, World.ownsRow_nil _ _ _ _, Below.refl _ _⟩
  case round =>
    obtain ⟨pre, k, r, rfl, hL, hr, hown, hb⟩ := hrel
    have HL := Lib.hid hL
    have hlen := hL.len
    have hB := hb.size
    clear hL
    by_cases h : 128 ≤ r
    · obtain ⟨k', rfl, HN⟩ := HL.out.next h
      have HN2 := Lib.hid HN
      clear HN
      have HB := Lib.hid hb
      clear hb
      go_wp2_with (at_builtin; refine wpList_append_own _ rfl _ _ 38 rfl w.heap.size 5 i0 (.int .u8 0) 1 1 Tryd.underlying38 hi hz0 hz1 hz2 rfl (by decide) _ _ _ rfl (hown.alloc _) ⟨wr.heap.size, 0, none⟩ 1 1 [.int .u8 ((r : Int) % 128 + 128)] rfl rfl (cell_one_new _ _ _) (by simp [Value.oneCell']) (by unfold maxLen; omega) (by omega) (by simp; omega) ?_; intro v' w1 hown' hgrow _)
      go_roundw
      case rel =>
        refine ⟨pre ++ [UInt8.ofNat (r % 128 + 128)], k', r / 128, by simp, HN2.out, by omega, ?_, (HB.out.alloc hB _).grown hgrow (by simp; omega) (fun k e => (hown.lt k e).1)⟩
        have e : bytesV (pre ++ [UInt8.ofNat (r % 128 + 128)]) = bytesV pre ++ [.int .u8 ((r : Int) % 128 + 128)] := by
          unfold bytesV
          rw [List.map_append, List.map_cons, List.map_nil, Enc.toNat_small (by omega), show ((r % 128 + 128 : Nat) : Int) = (r : Int) % 128 + 128 by omega]
        rw [e, List.length_append]
        exact hown'
      case measure => simp [intOf]; omega
    · have HE := Lib.hid (HL.out.last (by omega))
      have HB := Lib.hid hb
      clear hb
      go_wp2_with (at_builtin; refine wpList_append_own _ rfl _ _ 38 rfl w.heap.size 5 i0 (.int .u8 0) 1 1 Tryd.underlying38 hi hz0 hz1 hz2 rfl (by decide) _ _ _ rfl (hown.alloc _) ⟨wr.heap.size, 0, none⟩ 1 1 [.int .u8 (r : Int)] rfl rfl (cell_one_new _ _ _) (by simp [Value.oneCell']) (by unfold maxLen; omega) (by omega) (by simp; omega) ?_; intro v' w1 hown' hgrow _; obtain ⟨g, cap, rfl, hconv⟩ := row_string (row_last hown' (by omega) HE.out) (Enc.enc_pos _))
      go_ret2
      exact HP.out _ ((HB.out.alloc hB _).grown hgrow (by simp; omega) (fun k e => (hown.lt k e).1))

theorem refPutInt_no (n : Int) (w : World) (h : n < -4611686018427387903 ∨ 4611686018427387903 < n) :
    Calls Tryd.prog 13 #[.int .i64 n] w (PutEnd n w) := by
  have hp : PutEnd n w (.returned (.tuple #[.string ⟨#[]⟩, .int .i64 10])) w := by
    unfold PutEnd bstr Enc.putBytes Enc.putErr; rw [if_pos h, if_pos h]; exact ⟨rfl, Below.refl _ _⟩
  have HP := Lib.hid hp; clear hp
  rcases h with h | h
  · go_enter Tryd.func13, Tryd.ntmps13
    go_wp2
    go_ret2
    exact HP.out
  · have h' : decide (n < -4611686018427387903) = false := by simp; omega
    go_enter Tryd.func13, Tryd.ntmps13
    go_wp2
    go_ret2
    exact HP.out

theorem refPutInt_any (n : Int) (w : World) : Calls Tryd.prog 13 #[.int .i64 n] w (PutEnd n w) := by
  by_cases h : n < -4611686018427387903 ∨ 4611686018427387903 < n
  · exact refPutInt_no n w h
  · exact refPutInt_yes n w (by omega) (by omega)

theorem refPstr_any (s : ByteArray) (w : World) (hs : s.size ≤ maxLen) :
    Calls Tryd.prog 20 #[.string s] w (PstrEnd s.data.toList w) := by
  unfold maxLen at hs
  by_cases h : 65536 < s.size
  · have hp : PstrEnd s.data.toList w (.returned (.tuple #[.string ⟨#[]⟩, .int .i64 10])) w := by
      unfold PstrEnd bstr Enc.pstrBytes Enc.pstrErr
      have h' : 65536 < s.data.toList.length := by simpa using h
      rw [if_pos h', if_pos h']; exact ⟨rfl, Below.refl _ _⟩
    have HP := Lib.hid hp; clear hp
    go_enter Tryd.func20, Tryd.ntmps20
    go_wp2
    go_ret2
    exact HP.out
  · have hc := (refPutInt_any (s.size : Int) w).mono (R' := fun e w' => e = .returned (.tuple #[.string ⟨(Enc.enc (Enc.zig s.size)).toArray⟩, .int .i64 0]) ∧ Below w.heap.size w w') fun e w' h' => by
      unfold PutEnd bstr at h'
      rw [Enc.putBytes_in (by omega) (by omega), Enc.putErr_in (by omega) (by omega)] at h'; exact h'
    have HC := Lib.hid hc; clear hc
    obtain ⟨t, ht⟩ : ∃ t : ByteArray, t = ⟨(Enc.enc (Enc.zig s.size)).toArray⟩ := ⟨_, rfl⟩
    have hl : t.size ≤ 9 := by
      have h9 := Enc.enc_le (Enc.zig s.size)
      have e : t.size = (Enc.enc (Enc.zig s.size)).length := by rw [ht]; exact List.size_toArray
      omega
    have hp : ∀ w', Below w.heap.size w w' → PstrEnd s.data.toList w (.returned (.tuple #[.string (t ++ s), .int .i64 0])) w' := by
      intro w' hb
      unfold PstrEnd bstr Enc.pstrBytes Enc.pstrErr
      have h' : ¬ 65536 < s.data.toList.length := by simpa using h
      have hz : s.data.toList.length = s.size := by simp
      rw [if_neg h', if_neg h', hz]
      refine ⟨?_, hb⟩
      rw [show t ++ s = ⟨(Enc.enc (Enc.zig s.size) ++ s.data.toList).toArray⟩ from ?_]
      apply ByteArray.ext
      rw [ByteArray.data_append, ht]
      simp
    have HP := Lib.hid hp; clear hp
    rw [← ht] at HC
    clear ht
    go_enter Tryd.func20, Tryd.ntmps20
    go_wp2_with (go_at_call 13; refine HC.out.mono ?_; rintro e w' ⟨rfl, hb⟩)
    go_ret2
    exact HP.out _ hb
end Go.Proofs.YtfiigjkcmnlddaaDoor
