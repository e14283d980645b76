/-
  The walk of WireTruncated: it returns true for all arguments. Condition: the table reads as the program's text lays it.
-/
import Derived.Test.YtfiigjkcmnlddaaDoorSane
import Derived.Laws.DeepStrings4
import Derived.WalkSpells
namespace Go.Proofs.YtfiigjkcmnlddaaDoor
open Go.RowKit

/-- The bytes of an integer, as a Go string. -/
def encS (n : Int) : ByteArray := ⟨(Enc.enc (Enc.zig n)).toArray⟩
theorem encS_list (n : Int) : (encS n).data.toList = Enc.enc (Enc.zig n) := by simp [encS]
theorem encS_size (n : Int) : (encS n).size = (Enc.enc (Enc.zig n)).length := by
  unfold encS; exact List.size_toArray
theorem putN (c : Int) (w : World) : Calls Tryd.prog 12 #[.int .i64 (numS c)] w fun e w' => e = .returned (.tuple #[.string (encS (numS c)), .int .i64 0]) ∧ Below w.heap.size w w' := by
  have := numS_bd c
  exact put_at _ _ _ w (by rw [encS_list, Enc.putBytes_in (by omega) (by omega)]) (Enc.putErr_in (by omega) (by omega))
/-- The bytes of a string, as a Go string. -/
def pstrS (t : ByteArray) : ByteArray := ⟨(Enc.enc (Enc.zig t.size) ++ t.data.toList).toArray⟩
theorem pstrS_list (t : ByteArray) : (pstrS t).data.toList = Enc.enc (Enc.zig t.size) ++ t.data.toList := by simp [pstrS]
theorem pstrS_size (t : ByteArray) : (pstrS t).size = (Enc.enc (Enc.zig t.size)).length + t.size := by
  unfold pstrS
  rw [show ∀ l : List UInt8, (ByteArray.mk l.toArray).size = l.length from fun l => List.size_toArray, List.length_append, toList_len]
theorem putS (t : ByteArray) (w : World) (h : t.size ≤ 65536) : Calls Tryd.prog 19 #[.string t] w fun e w' => e = .returned (.tuple #[.string (pstrS t), .int .i64 0]) ∧ Below w.heap.size w w' := by
  refine pstr_at _ _ _ w (by unfold maxLen; omega) ?_ ?_
  · rw [pstrS_list]; unfold Enc.pstrBytes; rw [if_neg (by rw [toList_len]; omega), toList_len]
  · unfold Enc.pstrErr; rw [if_neg (by rw [toList_len]; omega)]
theorem cut_size (t : ByteArray) (n : Nat) : (t.extract 0 (min (t.size : Int) (n : Int)).toNat).size ≤ n := by
  rw [ByteArray.size_extract]; omega
theorem cut_size' (t : ByteArray) (n : Int) (h : 0 ≤ n) : ((t.extract 0 (min (t.size : Int) n).toNat).size : Int) ≤ n := by
  rw [ByteArray.size_extract]; omega
theorem cut_list (t : ByteArray) (n : Nat) : (t.extract 0 n).data.toList = t.data.toList.take n := by
  rw [Lib.extract_data]; simp

/-- No beginning of an encoding is accepted. -/
theorem int_cut (n : Int) (h1 : -4611686018427387903 ≤ n) (h2 : n ≤ 4611686018427387903) (j : Nat) (hj : j < (encS n).size) : Enc.intV ((encS n).extract 0 j).data.toList 0 = (0, 0, 10) := by
  rw [encS_size] at hj
  rw [cut_list, encS_list]
  unfold Enc.intV
  rw [if_neg (by simp)]
  simp only [Int.toNat_zero, List.drop_zero, Enc.decOK_short (Enc.zig_le h1 h2) hj]
theorem str_cut (t : ByteArray) (h : t.size ≤ 65536) (j : Nat) (hj : j < (pstrS t).size) : Enc.strV ((pstrS t).extract 0 j).data.toList 0 = ((ByteArray.mk #[]).data.toList, 0, 10) := by
  rw [pstrS_size] at hj
  rw [cut_list, pstrS_list]
  have hz := Enc.zig_le (n := (t.size : Int)) (by omega) (by omega)
  by_cases hl : j < (Enc.enc (Enc.zig t.size)).length
  · rw [List.take_append_of_le_length (by omega)]
    unfold Enc.strV Enc.intV
    rw [if_neg (by simp)]
    simp only [Int.toNat_zero, List.drop_zero, Enc.decOK_short hz hl]
    rfl
  · obtain ⟨k, rfl⟩ : ∃ k, j = (Enc.enc (Enc.zig t.size)).length + k := ⟨j - (Enc.enc (Enc.zig t.size)).length, by omega⟩
    rw [List.take_length_add_append]
    have hi := Enc.intV_put (n := (t.size : Int)) (by omega) (by omega) [] (t.data.toList.take k)
    simp only [List.nil_append, List.length_nil] at hi
    unfold Enc.strV
    rw [show ((0 : Nat) : Int) = 0 from rfl] at hi
    rw [hi]
    simp only
    rw [if_neg (by simp), if_pos (Or.inr (Or.inr (by simp; omega)))]

/-- An encoding is the beginning of another one only if they are the same. -/
theorem encS_prefix {n m : Int} (h1 : -4611686018427387903 ≤ n) (h2 : n ≤ 4611686018427387903) (h3 : -4611686018427387903 ≤ m) (h4 : m ≤ 4611686018427387903) (h : ((encS m).extract 0 (encS n).size) = encS n) : n = m := by
  have hl := congrArg (fun t : ByteArray => t.data.toList) h
  simp only [cut_list, encS_list] at hl
  have hp : Enc.enc (Enc.zig n) <+: Enc.enc (Enc.zig m) := by rw [← hl]; exact List.take_prefix _ _
  have := Enc.enc_prefix (Enc.zig_le h1 h2) (Enc.zig_le h3 h4) hp
  rw [← Enc.unzig_zig n, this, Enc.unzig_zig]

theorem pick_nat (c : Int) (n : Nat) (h : 0 < n) : ∃ j : Nat, j < n ∧ pickS c n = j := by
  obtain ⟨a, b⟩ := pickS_bd c n (by omega)
  obtain ⟨j, hj⟩ := Int.eq_ofNat_of_zero_le a
  exact ⟨j, by omega, hj⟩

set_option maxRecDepth 100000 in
set_option maxHeartbeats 2000000 in
theorem truncated_walk (c d : Int) (text : ByteArray) (at' : Int) (w : World) (ht : Tab w)
    (c1 : -9223372036854775808 ≤ c) (c2 : c ≤ 9223372036854775807) (d1 : -9223372036854775808 ≤ d) (d2 : d ≤ 9223372036854775807) (hs : text.size ≤ maxLen) (a1 : -9223372036854775808 ≤ at') (a2 : at' ≤ 9223372036854775807) :
    Calls Tryd.prog 7 #[.int .i64 c, .int .i64 d, .string text, .int .i64 at'] w fun e w' => e = .returned (.bool true) ∧ Below w.heap.size w w' := by
  unfold maxLen at hs
  have bc := numS_bd c
  have bd := numS_bd d
  have NC := Lib.hid (fun w => num_any c w c1 c2)
  have ND := Lib.hid (fun w => num_any d w d1 d2)
  have PC := Lib.hid (putN c)
  have PD := Lib.hid (putN d)
  have hpos : 0 < (encS (numS c)).size := by rw [encS_size]; exact Enc.enc_pos _
  have hc9 : (encS (numS c)).size ≤ 9 := by rw [encS_size]; exact Enc.enc_le _
  have hd9 : (encS (numS d)).size ≤ 9 := by rw [encS_size]; exact Enc.enc_le _
  obtain ⟨j, hj, ej⟩ := pick_nat at' _ hpos
  have PJ := Lib.hid (fun w => by have := pick_any at' ((encS (numS c)).size : Int) w a1 a2 (by omega) (by omega); rw [ej] at this; exact this)
  have HI := Lib.hid (int_cut (numS c) (by omega) (by omega) j hj)
  have HX := Lib.hid (fun h => encS_prefix (n := numS c) (m := numS d) (by omega) (by omega) (by omega) (by omega) h)
  have HT := Lib.hid ht
  clear ht ej
  have HAB := Lib.hid (fun h : numS c = numS d => show encS (numS c) = encS (numS d) by rw [h])
  generalize encS (numS c) = A at *
  generalize encS (numS d) = B at *
  generalize numS c = n at *
  generalize numS d = m at *
  go_enter Tryd.func7, Tryd.ntmps7
  go_wp2_with fail
  refine (sane_any _ HT.out).mono ?_; rintro e w1 ⟨rfl, hb1⟩
  go_wp2_with fail
  refine (NC.out _).mono ?_; rintro e w2 ⟨rfl, hb2⟩
  go_wp2_with fail
  refine (PC.out _).mono ?_; rintro e w3 ⟨rfl, hb3⟩
  go_wp2_with fail
  refine (ND.out _).mono ?_; rintro e w4 ⟨rfl, hb4⟩
  go_wp2_with fail
  refine (PD.out _).mono ?_; rintro e w5 ⟨rfl, hb5⟩
  go_wp2_with fail
  have ht2 := cut_size text 200
  generalize text.extract 0 (min (text.size : Int) ((200 : Nat) : Int)).toNat = t at ht2 ⊢
  have hTs := pstrS_size t
  have hT0 : 0 < (pstrS t).size := by have := Enc.enc_pos (Enc.zig t.size); omega
  have hT1 : (pstrS t).size ≤ 209 := by have := Enc.enc_le (Enc.zig t.size); omega
  obtain ⟨k, hk, ek⟩ := pick_nat at' _ hT0
  have PK := Lib.hid (fun w => by have := pick_any at' ((pstrS t).size : Int) w a1 a2 (by omega) (by omega); rw [ek] at this; exact this)
  have HS := Lib.hid (str_cut t (by omega) k hk)
  have PT := Lib.hid (fun w => putS t w (by omega))
  clear ek hTs
  generalize pstrS t = T at *
  have hA0 : ((A.size : Int) == 0) = false := by rw [beq_eq_false_iff_ne]; omega
  have hT2 : ((T.size : Int) == 0) = false := by rw [beq_eq_false_iff_ne]; omega
  have hfin : n = m ∧ A = B ∧ ((A.extract 0 A.size).toList == A.toList) = true ∨ (n == m) = false ∧ ((B.extract 0 A.size).toList == A.toList) = false := by
    by_cases hnm : n = m
    · refine .inl ⟨hnm, HAB.out hnm, ?_⟩
      rw [beq_iff_eq, ByteArray.extract_zero_size]
    · refine .inr ⟨by rw [beq_eq_false_iff_ne]; exact hnm, ?_⟩
      rw [beq_eq_false_iff_ne]
      intro h
      rw [Lib.toList_data, Lib.toList_data] at h
      exact hnm (HX.out (ByteArray.ext (Array.toList_inj.1 h)))
  rcases hfin with ⟨rfl, rfl, hX⟩ | ⟨hq, hX⟩
  all_goals
    refine (PT.out _).mono ?_; rintro e w6 ⟨rfl, hb6⟩
    go_wp2_with fail
    refine (PJ.out _).mono ?_; rintro e w7 ⟨rfl, rfl⟩
    go_wp2_with fail
    refine (int_at _ 0 0 0 10 _ (by unfold maxLen; rw [ByteArray.size_extract]; omega) HI.out).mono ?_; rintro e w8 ⟨rfl, rfl⟩
    go_wp2_with fail
    refine (PK.out _).mono ?_; rintro e w9 ⟨rfl, rfl⟩
    go_wp2_with fail
    refine (str_at _ ⟨#[]⟩ 0 0 10 _ (by unfold maxLen; rw [ByteArray.size_extract]; omega) HS.out).mono ?_; rintro e w10 ⟨rfl, hb10⟩
    go_wp2_with fail
    all_goals
      refine (NC.out _).mono ?_; rintro e w11 ⟨rfl, hb11⟩
      go_wp2_with fail
      refine (ND.out _).mono ?_; rintro e w12 ⟨rfl, hb12⟩
      go_wp2_with fail
      go_ret
      exact ⟨rfl, below_step (below_step (below_step (below_step (below_step (below_step (below_step (below_step hb1 hb2) hb3) hb4) hb5) hb6) hb10) hb11) hb12⟩
end Go.Proofs.YtfiigjkcmnlddaaDoor
