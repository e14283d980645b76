/-
  The contracts of the reference implementation's Int and String.
-/
import Derived.Test.YtfiigjkcmnlddaaDoorRefPut
import Derived.Test.YtfiigjkcmnlddaaDoorString
import Derived.Test.YtfiigjkcmnlddaaDoorTruncated
namespace Go.Proofs.YtfiigjkcmnlddaaDoor
open Go.RowKit

/-- The bytes of a number, as a Go string. -/
def encZ (Z : Nat) : ByteArray := ⟨(Enc.enc Z).toArray⟩
theorem encZ_list (Z : Nat) : (encZ Z).data.toList = Enc.enc Z := by simp [encZ]

theorem dec_last (k : Nat) : ∀ (l : List UInt8) (z m : Nat) (b : UInt8), Enc.dec k l = some (z, m, b) → m ≤ l.length ∧ 1 ≤ m := by
  induction k with
  | zero => intro l z m b h; simp [Enc.dec] at h
  | succ k ih =>
    intro l z m b h
    match l with
    | [] => simp [Enc.dec] at h
    | c :: r =>
      rw [Enc.dec] at h
      split at h
      · simp at h; simp; omega
      · cases hd : Enc.dec k r with
        | none => rw [hd] at h; simp at h
        | some x =>
          obtain ⟨v, n, b'⟩ := x
          have := ih r v n b' hd
          rw [hd] at h; simp at h; simp; omega

/-- The three ways in which the reference's Int ends behind the last group. -/
theorem last_cases (s : ByteArray) (a Z k : Nat) (b : UInt8) (ha : a ≤ s.size) (hZ : Z < 9223372036854775808) (h : Enc.dec 9 (s.data.toList.drop a) = some (Z, k + 1, b)) :
    (Z ≤ 9223372036854775806 ∧ ((encZ Z).toList == (s.extract a (a + k + 1)).toList) = true ∧ Enc.intV s.data.toList a = (Enc.unzig Z, (a : Int) + k + 1, 0)) ∨
    (Z ≤ 9223372036854775806 ∧ ((encZ Z).toList == (s.extract a (a + k + 1)).toList) = false ∧ Enc.intV s.data.toList a = (0, 0, 10)) ∨
    (9223372036854775806 < Z ∧ Enc.intV s.data.toList a = (0, 0, 10)) := by
  have hal : a ≤ s.data.toList.length := by rw [toList_len]; exact ha
  have he : (s.extract a (a + k + 1)).data.toList = (s.data.toList.drop a).take (k + 1) := by
    rw [Lib.extract_data, show a + k + 1 - a = k + 1 by omega]
  by_cases hz : Z ≤ 9223372036854775806
  · by_cases hb : b ≠ 0 ∨ k + 1 = 1
    · obtain ⟨_, _, ⟨r, hr⟩, hm, _, _⟩ := Enc.encF_dec 8 _ _ _ _ h hb
      refine .inl ⟨hz, ?_, ?_⟩
      · rw [beq_iff_eq, Lib.toList_data, Lib.toList_data, he, encZ_list, hr, hm]
        rw [List.take_left]; rfl
      · rw [intV_of_dec hal h hb hz]
        simp; omega
    · refine .inr (.inl ⟨hz, ?_, intV_of_bad hal h (fun c => hb c.1)⟩)
      rw [beq_eq_false_iff_ne, Lib.toList_data, Lib.toList_data, he, encZ_list]
      intro e
      have hL : s.data.toList.drop a = Enc.enc Z ++ (s.data.toList.drop a).drop (k + 1) := by rw [e, List.take_append_drop]
      have hl := congrArg List.length e
      have hml := (dec_last 9 _ _ _ _ h).1
      rw [List.length_take, Nat.min_eq_left hml] at hl
      obtain ⟨b', e', hb', _⟩ := Enc.dec_encF 8 Z ((s.data.toList.drop a).drop (k + 1)) (by rw [Enc.pow9]; exact hZ)
      rw [show Enc.encF 8 Z = Enc.enc Z from rfl, ← hL, h] at e'
      simp only [Option.some.injEq, Prod.mk.injEq, true_and] at e'
      obtain ⟨e1, e2⟩ := e'
      rw [← e2, show Enc.encF 8 Z = Enc.enc Z from rfl, hl] at hb'
      exact hb hb'
  · exact .inr (.inr ⟨by omega, intV_of_bad hal h (fun c => hz c.2)⟩)

theorem refPut_in (n : Int) (h1 : -4611686018427387903 ≤ n) (h2 : n ≤ 4611686018427387903) (w : World) : Calls Tryd.prog 13 #[.int .i64 n] w fun e w' => e = .returned (.tuple #[.string (encZ (Enc.zig n)), .int .i64 0]) ∧ Below w.heap.size w w' :=
  (refPutInt_any n w).mono fun e w' h => by
    unfold PutEnd bstr at h
    rw [Enc.putBytes_in h1 h2, Enc.putErr_in h1 h2] at h
    exact h
theorem refPut_out (n : Int) (h : n < -4611686018427387903 ∨ 4611686018427387903 < n) (w : World) : Calls Tryd.prog 13 #[.int .i64 n] w fun e w' => e = .returned (.tuple #[.string ⟨#[]⟩, .int .i64 10]) ∧ Below w.heap.size w w' :=
  (refPutInt_any n w).mono fun e w' h' => by
    unfold PutEnd bstr Enc.putBytes Enc.putErr at h'
    rw [if_pos h, if_pos h] at h'
    exact h'

def RefIntEnd (L : List UInt8) (at' : Int) (w : World) (e : Ending) (w' : World) : Prop :=
  e = .returned (.tuple #[.int .i64 (Enc.intV L at').1, .int .i64 (Enc.intV L at').2.1, .int .i64 (Enc.intV L at').2.2]) ∧ Below w.heap.size w w'
theorem ref_end {L : List UInt8} {at' x y z : Int} {w w' : World} (h : Enc.intV L at' = (x, y, z)) (hb : Below w.heap.size w w') :
    RefIntEnd L at' w (.returned (.tuple #[.int .i64 x, .int .i64 y, .int .i64 z])) w' := by
  unfold RefIntEnd; rw [h]; exact ⟨rfl, hb⟩

theorem shift_part (b k : Nat) (hk : k < 9) : IntKind.u64.wrap ((b : Int) % 128 * 2 ^ (7 * k)) = ((b % 128 * 128 ^ k : Nat) : Int) := by
  have hp' : (2 : Int) ^ (7 * k) = ((128 ^ k : Nat) : Int) := by
    have hp : (2 : Nat) ^ (7 * k) = 128 ^ k := by rw [Nat.pow_mul]
    rw [← hp]; simp
  have h9 : 128 ^ k ≤ 128 ^ 8 := Nat.pow_le_pow_right (by omega) (by omega)
  have h8 : (128 : Nat) ^ 8 = 72057594037927936 := by decide
  have hm : b % 128 * 128 ^ k ≤ 127 * 128 ^ k := Nat.mul_le_mul_right _ (by omega)
  have e : ((b : Int) % 128 * ((128 ^ k : Nat) : Int)) = ((b % 128 * 128 ^ k : Nat) : Int) := by simp
  rw [hp', e, wraps_u64' _ (by omega) (by omega)]

set_option maxRecDepth 100000 in
set_option maxHeartbeats 4000000 in
theorem refInt_in (s : ByteArray) (a : Nat) (w : World) (hs : s.size ≤ maxLen) (ha : a ≤ s.size) :
    Calls Tryd.prog 16 #[.string s, .int .i64 (a : Int)] w (RefIntEnd s.data.toList a w) := by
  unfold maxLen at hs
  have h0 : decide ((a : Int) < 0) = false := by simp
  have h1 : decide ((s.size : Int) < (a : Int)) = false := by simp; omega
  have h1' : decide (s.size < a) = false := by simp; omega
  have hal : a ≤ s.data.toList.length := by rw [toList_len]; exact ha
  go_enter Tryd.func16, Tryd.ntmps16
  go_wp2_with fail
  go_loop [7, 8] (fun z i => ∃ k z0 : Nat, k ≤ 9 ∧ a + k ≤ s.size ∧ i = .int .i64 k ∧ z = .int .u64 z0 ∧ DecRel (s.data.toList.drop a) k z0) (fun _ i => 9 - (intOf i).toNat)
  case atStart => exact ⟨0, 0, by omega, by omega, rfl, rfl, DecRel.zero _⟩
  case round =>
    obtain ⟨k, z0, hk, hak, rfl, rfl, hd⟩ := hrel
    by_cases h9 : k < 9
    · by_cases hl : a + k < s.size
      · have hb : (s.data.toList.drop a).drop k = s[a + k] :: (s.data.toList.drop a).drop (k + 1) := by
          rw [List.drop_drop, List.drop_drop, toList_drop s (a + k) hl, Nat.add_assoc]
        have hlt : s[a + k].toNat < 256 := s[a + k].toNat_lt
        obtain ⟨t, et⟩ : ∃ t, t = s[a + k].toNat % 128 * 128 ^ k := ⟨_, rfl⟩
        have f1 : IntKind.u64.wrap (((s[a + k].toNat : Nat) : Int) % 128 * 2 ^ (7 * k)) = (t : Int) := by rw [et]; exact shift_part _ k h9
        obtain ⟨Z, eZ⟩ : ∃ Z, Z = z0 + t := ⟨_, rfl⟩
        have hzt : z0 + t < 9223372036854775808 := by
          have hm : s[a + k].toNat % 128 * 128 ^ k ≤ 127 * 128 ^ k := Nat.mul_le_mul_right _ (by omega)
          have hz := hd.1
          have h9' : 128 ^ (k + 1) ≤ 128 ^ 9 := Nat.pow_le_pow_right (by omega) (by omega)
          have h8 : (128 : Nat) ^ 9 = 9223372036854775808 := by decide
          rw [Nat.pow_succ] at h9'
          omega
        have hZ : Z < 9223372036854775808 := by omega
        have f2 : (z0 : Int) + (t : Int) = (Z : Int) := by omega
        by_cases h128 : 128 ≤ s[a + k].toNat
        · have HN := Lib.hid (hd.next h9 hb h128)
          rw [← et, ← eZ] at HN
          clear hd hb et eZ
          go_wp2_with fail
          go_round
          case rel => exact ⟨k + 1, Z, by omega, by omega, by go_num, rfl, HN.out⟩
          case measure => simp [intOf]; omega
        · have hdl := hd.last h9 hb (by omega)
          rw [← et, ← eZ] at hdl
          have LC := last_cases s a Z k s[a + k] ha hZ hdl
          obtain ⟨u, eu⟩ : ∃ u, u = Enc.unzig Z := ⟨_, rfl⟩
          have hzu : Enc.zig u = Z := by rw [eu, Enc.zig_unzig]
          have hpar : (((Z : Int) % 2 == 1) = true ∧ -((Z : Int) / 2) - 1 = u) ∨ (((Z : Int) % 2 == 1) = false ∧ (Z : Int) / 2 = u) := by
            rw [eu]
            unfold Enc.unzig
            by_cases hp : Z % 2 = 1
            · rw [if_pos hp]
              exact .inl ⟨by rw [beq_iff_eq]; omega, by omega⟩
            · rw [if_neg hp]
              exact .inr ⟨by rw [beq_eq_false_iff_ne]; omega, by omega⟩
          rw [← eu] at LC
          have LC := Lib.hid LC
          have ub : Z ≤ 9223372036854775806 → -4611686018427387903 ≤ u ∧ u ≤ 4611686018427387903 := fun h => by rw [eu]; exact Enc.unzig_range h
          have uo : 9223372036854775806 < Z → u < -4611686018427387903 ∨ 4611686018427387903 < u := fun h => by
            rw [eu]; unfold Enc.unzig; split <;> omega
          have UB := Lib.hid ub
          have UO := Lib.hid uo
          have HZU := Lib.hid hzu
          clear hd hb et eZ hdl eu hzu ub uo
          rcases hpar with ⟨hp1, hp2⟩ | ⟨hp1, hp2⟩
          all_goals
            go_wp2_with fail
            rcases LC.out with ⟨hz, hX, hv⟩ | ⟨hz, hX, hv⟩ | ⟨hz, hv⟩
            · have HV := Lib.hid hv; clear hv
              have P := refPut_in u (UB.out hz).1 (UB.out hz).2 w
              rw [HZU.out] at P
              refine P.mono ?_; rintro e w1 ⟨rfl, hb1⟩
              clear P
              go_wp2_with fail
              go_ret3
              exact ref_end HV.out hb1
            · have HV := Lib.hid hv; clear hv
              have P := refPut_in u (UB.out hz).1 (UB.out hz).2 w
              rw [HZU.out] at P
              refine P.mono ?_; rintro e w1 ⟨rfl, hb1⟩
              clear P
              go_wp2_with fail
              go_ret3
              exact ref_end HV.out hb1
            · have HV := Lib.hid hv; clear hv
              refine (refPut_out u (UO.out hz) w).mono ?_; rintro e w1 ⟨rfl, hb1⟩
              go_wp2_with fail
              go_ret3
              exact ref_end HV.out hb1
      · have hn := hd.none (.inr (by rw [List.drop_drop]; exact List.drop_eq_nil_of_le (by rw [toList_len]; omega)))
        have HN := Lib.hid (intV_of_none hal hn); clear hn
        go_wp2_with fail
        go_ret3
        exact ref_end HN.out (Below.refl _ _)
    · have h8 : decide ((k : Int) < 9) = false := by simp; omega
      have hn := hd.none (.inl (by omega))
      have HN := Lib.hid (intV_of_none hal hn); clear hn
      go_wp2_with fail
      go_ret3
      exact ref_end HN.out (Below.refl _ _)

theorem refInt_any (s : ByteArray) (at' : Int) (w : World) (hs : s.size ≤ maxLen) :
    Calls Tryd.prog 16 #[.string s, .int .i64 at'] w (RefIntEnd s.data.toList at' w) := by
  by_cases h0 : at' < 0
  · have HV := Lib.hid (show Enc.intV s.data.toList at' = (0, 0, 2) by unfold Enc.intV; rw [if_pos (.inl h0)])
    go_enter Tryd.func16, Tryd.ntmps16
    go_wp2_with fail
    go_ret3
    exact ref_end HV.out (Below.refl _ _)
  by_cases h1 : (s.size : Int) < at'
  · have HV := Lib.hid (show Enc.intV s.data.toList at' = (0, 0, 2) by unfold Enc.intV; rw [if_pos (.inr (by simpa using h1))])
    have d0 : decide (at' < 0) = false := by simp; omega
    go_enter Tryd.func16, Tryd.ntmps16
    go_wp2_with fail
    go_ret3
    exact ref_end HV.out (Below.refl _ _)
  obtain ⟨a, rfl⟩ := Int.eq_ofNat_of_zero_le (show 0 ≤ at' by omega)
  exact refInt_in s a w hs (by omega)

theorem refInt_at (s : ByteArray) (k n next x : Int) (w : World) (hs : s.size ≤ maxLen) (h : Enc.intV s.data.toList k = (n, next, x)) :
    Calls Tryd.prog 16 #[.string s, .int .i64 k] w fun e w' => e = .returned (.tuple #[.int .i64 n, .int .i64 next, .int .i64 x]) ∧ Below w.heap.size w w' :=
  (refInt_any s k w hs).mono fun e w' h' => by
    unfold RefIntEnd at h'
    rw [h] at h'
    exact h'

set_option maxRecDepth 100000 in
set_option maxHeartbeats 1000000 in
theorem refStr_any (s : ByteArray) (at' : Int) (w : World) (hs : s.size ≤ maxLen) :
    Calls Tryd.prog 18 #[.string s, .int .i64 at'] w (StrEnd s.data.toList at' w) := by
  obtain ⟨n, st, er, hi⟩ : ∃ n st er, Enc.intV s.data.toList at' = (n, st, er) := ⟨_, _, _, rfl⟩
  have HC := Lib.hid (refInt_at s at' n st er w hs hi)
  obtain ⟨b1, b2, b3, b4, b5, b6⟩ := Enc.intV_bd hi
  rw [toList_len] at b4
  unfold maxLen at hs
  by_cases he : er = 0
  · subst he
    by_cases h0 : n < 0
    · have HV := Lib.hid (show Enc.strV s.data.toList at' = ([], 0, 10) by unfold Enc.strV; rw [hi]; simp only; rw [if_neg (by simp), if_pos (.inl h0)])
      clear hi
      go_enter Tryd.func18, Tryd.ntmps18
      go_wp2_with (go_at_call 16; refine HC.out.mono ?_; rintro e w' ⟨rfl, hb⟩)
      go_ret3
      exact str_end HV.out rfl hb
    have d0 : decide (n < 0) = false := by simp; omega
    by_cases h1 : 65536 < n
    · have HV := Lib.hid (show Enc.strV s.data.toList at' = ([], 0, 10) by unfold Enc.strV; rw [hi]; simp only; rw [if_neg (by simp), if_pos (.inr (.inl h1))])
      clear hi
      go_enter Tryd.func18, Tryd.ntmps18
      go_wp2_with (go_at_call 16; refine HC.out.mono ?_; rintro e w' ⟨rfl, hb⟩)
      go_ret3
      exact str_end HV.out rfl hb
    have d1 : decide (65536 < n) = false := by simp; omega
    by_cases h2 : (s.size : Int) - st < n
    · have HV := Lib.hid (show Enc.strV s.data.toList at' = ([], 0, 10) by unfold Enc.strV; rw [hi]; simp only; rw [if_neg (by simp), if_pos (.inr (.inr (by rw [toList_len]; exact h2)))])
      clear hi
      go_enter Tryd.func18, Tryd.ntmps18
      go_wp2_with (go_at_call 16; refine HC.out.mono ?_; rintro e w' ⟨rfl, hb⟩)
      go_ret3
      exact str_end HV.out rfl hb
    · have hv : Enc.strV s.data.toList at' = ((s.data.toList.drop st.toNat).take n.toNat, st + n, 0) := by
        unfold Enc.strV; rw [hi]; simp only; rw [if_neg (by simp), if_neg (by rw [toList_len]; omega)]
      have HV := Lib.hid hv; clear hv hi
      obtain ⟨a, rfl⟩ := Int.eq_ofNat_of_zero_le b3
      obtain ⟨m, rfl⟩ := Int.eq_ofNat_of_zero_le (show 0 ≤ n by omega)
      have ham : a + m ≤ s.size := by omega
      have hm : m ≤ 65536 := by omega
      clear h0 h1 h2
      have d2 : decide ((s.size : Int) - (a : Int) < (m : Int)) = false := by simp; omega
      go_enter Tryd.func18, Tryd.ntmps18
      go_wp2_with (go_at_call 16; refine HC.out.mono ?_; rintro e w' ⟨rfl, hb⟩)
      go_ret3
      exact str_end HV.out (by rw [Lib.extract_data, Int.toNat_natCast, Int.toNat_natCast, Nat.add_sub_cancel_left]) hb
  · have HV := Lib.hid (show Enc.strV s.data.toList at' = ([], 0, er) by unfold Enc.strV; rw [hi]; simp only; rw [if_pos he])
    clear hi
    have de : (er == 0) = false := by simpa using he
    go_enter Tryd.func18, Tryd.ntmps18
    go_wp2_with (go_at_call 16; refine HC.out.mono ?_; rintro e w' ⟨rfl, hb⟩)
    go_ret3
    exact str_end HV.out rfl hb
end Go.Proofs.YtfiigjkcmnlddaaDoor
