/-
  The walk of WireUnique: it returns true for all arguments. Condition: the table reads as the program's text lays it.
-/
import Derived.Test.YtfiigjkcmnlddaaDoorTruncated
import Derived.LoopTactic
import Derived.RegionTactic
import Derived.ChangeAlike
namespace Go.Proofs.YtfiigjkcmnlddaaDoor
open Go.RowKit

/-- The string that WireUnique looks into: a first byte, and the beginning of s. -/
def firstS (b : UInt8) (p : ByteArray) : ByteArray := ⟨#[b]⟩ ++ p

theorem putI (n : Int) (h1 : -4611686018427387903 ≤ n) (h2 : n ≤ 4611686018427387903) (w : World) : Calls Tryd.prog 12 #[.int .i64 n] w fun e w' => e = .returned (.tuple #[.string (encS n), .int .i64 0]) ∧ Below w.heap.size w w' :=
  put_at _ _ _ w (by rw [encS_list, Enc.putBytes_in h1 h2]) (Enc.putErr_in h1 h2)
theorem bytes_ext {a b : ByteArray} (h : a.data.toList = b.data.toList) : (a.toList == b.toList) = true := by
  rw [beq_iff_eq, Lib.toList_data, Lib.toList_data, h]

/-- The two ways in which Int ends at an offset into the string. -/
theorem int_cases (T : ByteArray) (k : Nat) (h : k ≤ T.size) :
    (∃ (n : Int) (nx : Nat), Enc.intV T.data.toList k = (n, (nx : Int), 0) ∧ -4611686018427387903 ≤ n ∧ n ≤ 4611686018427387903 ∧ k ≤ nx ∧ nx ≤ T.size ∧ ((T.extract k nx).toList == (encS n).toList) = true) ∨
    Enc.intV T.data.toList k = (0, 0, 10) := by
  obtain ⟨n, nx, e, hi⟩ : ∃ n nx e, Enc.intV T.data.toList k = (n, nx, e) := ⟨_, _, _, rfl⟩
  by_cases he : e = 0
  · subst he
    obtain ⟨_, _, g3, g4, g5, g6, g7, r, hr⟩ := Enc.intV_ok hi
    rw [toList_len] at g6
    obtain ⟨m, rfl⟩ := Int.eq_ofNat_of_zero_le (show 0 ≤ nx by omega)
    refine .inl ⟨n, m, hi, g3, g4, by omega, by omega, bytes_ext ?_⟩
    rw [Lib.extract_data, encS_list]
    rw [Int.toNat_natCast] at hr
    rw [hr, show m - k = (Enc.enc (Enc.zig n)).length by omega, List.take_left]
  · obtain ⟨rfl, rfl, rfl⟩ := Enc.intV_no hi he (by omega) (by rw [toList_len]; omega)
    exact .inr hi
/-- The two ways in which String ends at an offset into the string. -/
theorem str_cases (T : ByteArray) (k : Nat) (h : k ≤ T.size) :
    (∃ (v : ByteArray) (nx : Nat), Enc.strV T.data.toList k = (v.data.toList, (nx : Int), 0) ∧ v.size ≤ 65536 ∧ k ≤ nx ∧ nx ≤ T.size ∧ ((T.extract k nx).toList == (pstrS v).toList) = true) ∨
    Enc.strV T.data.toList k = ((ByteArray.mk #[]).data.toList, 0, 10) := by
  obtain ⟨v, nx, e, hi⟩ : ∃ v nx e, Enc.strV T.data.toList k = (v, nx, e) := ⟨_, _, _, rfl⟩
  by_cases he : e = 0
  · subst he
    obtain ⟨_, _, g3, g4, g5, g6⟩ := Enc.strV_ok hi
    rw [toList_len] at g5
    obtain ⟨m, rfl⟩ := Int.eq_ofNat_of_zero_le (show 0 ≤ nx by omega)
    have hv : (ByteArray.mk v.toArray).data.toList = v := by simp
    have hs : (ByteArray.mk v.toArray).size = v.length := List.size_toArray
    refine .inl ⟨⟨v.toArray⟩, m, by rw [hv]; exact hi, by rw [hs]; exact g3, by omega, by omega, bytes_ext ?_⟩
    rw [Lib.extract_data, pstrS_list, hs, hv]
    rw [Int.toNat_natCast, Int.toNat_natCast] at g6
    exact g6
  · obtain ⟨rfl, rfl, rfl⟩ := Enc.strV_no hi he (by omega) (by rw [toList_len]; omega)
    exact .inr hi

set_option maxRecDepth 100000 in
set_option maxHeartbeats 4000000 in
theorem unique_walk (s : ByteArray) (at' : Int) (first : Int) (w : World) (ht : Tab w) (hs : s.size ≤ maxLen)
    (a1 : -9223372036854775808 ≤ at') (a2 : at' ≤ 9223372036854775807) (f1 : 0 ≤ first) (f2 : first ≤ 255) :
    Calls Tryd.prog 5 #[.string s, .int .i64 at', .int .u8 first] w fun e w' => e = .returned (.bool true) ∧ Below w.heap.size w w' := by
  unfold maxLen at hs
  have HT := Lib.hid ht
  clear ht
  obtain ⟨b, rfl⟩ : ∃ b : UInt8, first = ((b.toNat : Nat) : Int) := ⟨UInt8.ofNat first.toNat, by rw [Enc.toNat_small (by omega)]; omega⟩
  go_enter Tryd.func5, Tryd.ntmps5
  go_wp2_with fail
  refine (sane_any _ HT.out).mono ?_; rintro e w1 ⟨rfl, hb1⟩
  have hcv : ∀ (B : Nat) (W : World), W.cell? ⟨B, 0, none⟩ = some (.int .u8 ((b.toNat : Nat) : Int)) → (convert 38 9 (.slice (some ⟨B, 0, none⟩) 1 1)).run Tryd.prog W = .ok (.string ⟨#[b]⟩) W := fun B W h =>
    run_convert_bytes_back W 38 9 5 ⟨B, 0, none⟩ 1 [b] Tryd.underlying38 Tryd.underlying5 Tryd.underlying9 (fun j hj => by
      obtain rfl : j = 0 := by simpa using hj
      exact h)
  go_wp2_with fail
  go_region
  have hb2 : Below w.heap.size w (w1.alloc (.cells #[.int .u8 ((b.toNat : Nat) : Int)] 5)).drew := below_step hb1 (((Below.refl _ _).alloc (Nat.le_refl _) _).drew)
  have hp := cut_size' s 300 (by omega)
  have hT : ((ByteArray.mk #[b] ++ s.extract 0 (min (s.size : Int) 300).toNat).size : Int) ≤ 301 := by
    rw [ByteArray.size_append]; have : (ByteArray.mk #[b]).size = 1 := rfl; omega
  clear hcv hp f1 f2
  generalize ByteArray.mk #[b] ++ s.extract 0 (min (s.size : Int) 300).toNat = T at hT ⊢
  generalize (w1.alloc (.cells #[.int .u8 ((b.toNat : Nat) : Int)] 5)).drew = w2 at hb2 ⊢
  obtain ⟨j, hj, ej⟩ := pick_nat at' (T.size + 1) (by omega)
  have PJ := Lib.hid (fun w => by have := pick_any at' ((T.size + 1 : Nat) : Int) w a1 a2 (by omega) (by omega); rw [ej, Int.natCast_add] at this; exact this)
  clear ej
  go_wp2_with fail
  refine (PJ.out _).mono ?_; rintro e w3 ⟨rfl, rfl⟩
  go_wp2_with fail
  have hb3 : Below w.heap.size w (w2.alloc (.cells #[.int .i64 0, .int .i64 (j : Int)] 3)) := below_step hb2 ((Below.refl _ _).alloc (Nat.le_refl _) _)
  have c0 : (w2.alloc (.cells #[.int .i64 0, .int .i64 (j : Int)] 3)).cell? ⟨w2.heap.size, 0, none⟩ = some (.int .i64 0) := World.cell?_alloc_mark _ _ _ (0, 0) 0
  have c1 : (w2.alloc (.cells #[.int .i64 0, .int .i64 (j : Int)] 3)).cell? ⟨w2.heap.size, 1, none⟩ = some (.int .i64 (j : Int)) := World.cell?_alloc_mark _ _ _ (0, 0) 1
  have hlt3 : w2.heap.size < (w2.alloc (.cells #[.int .i64 0, .int .i64 (j : Int)] 3)).heap.size := by simp
  generalize w2.alloc (.cells #[.int .i64 0, .int .i64 (j : Int)] 3) = w3 at hb3 c0 c1 hlt3 ⊢
  generalize w2.heap.size = B2 at c0 c1 hlt3 ⊢
  go_loopw [38] (fun i wr => ∃ k : Nat, k ≤ 2 ∧ i = .int .i64 k ∧ Below w3.heap.size w3 wr) (fun i _ => 2 - (intOf i).toNat)
  case atStart => exact ⟨0, by omega, rfl, Below.refl _ _⟩
  case round =>
    obtain ⟨k, hk, rfl, hbr⟩ := hrel
    by_cases h2 : k < 2
    · obtain ⟨kk, hkk, hc⟩ : ∃ kk : Nat, kk ≤ T.size ∧ wr.cell? ⟨B2, k, none⟩ = some (.int .i64 (kk : Int)) := by
        rcases (by omega : k = 0 ∨ k = 1) with rfl | rfl
        · exact ⟨0, by omega, (hbr.cell (p := ⟨B2, 0, none⟩) hlt3).trans c0⟩
        · exact ⟨j, by omega, (hbr.cell (p := ⟨B2, 1, none⟩) hlt3).trans c1⟩
      have IA := int_cases T kk hkk
      have SA := str_cases T kk hkk
      have hTm : T.size ≤ maxLen := by unfold maxLen; omega
      rcases IA with ⟨n, nx, hi, n1, n2, n3, n4, hX⟩ | hi
      · have HI := Lib.hid hi; clear hi
        have dn : decide ((nx : Int) < (kk : Int)) = false := by simp; omega
        have dm : decide ((T.size : Int) < (nx : Int)) = false := by simp; omega
        go_wp2_with fail
        refine (int_at T _ _ _ _ _ hTm HI.out).mono ?_; rintro e w4 ⟨rfl, rfl⟩
        go_wp2_with fail
        refine (putI n n1 n2 _).mono ?_; rintro e w5 ⟨rfl, hb5⟩
        go_wp2_with fail
        rcases SA with ⟨v, mx, hv, v1, v2, v3, hY⟩ | hv
        · have HV := Lib.hid hv; clear hv
          have en : decide ((mx : Int) < (kk : Int)) = false := by simp; omega
          have em : decide ((T.size : Int) < (mx : Int)) = false := by simp; omega
          refine (str_at T v _ _ _ _ hTm HV.out).mono ?_; rintro e w6 ⟨rfl, hb6⟩
          go_wp2_with fail
          refine (putS v _ v1).mono ?_; rintro e w7 ⟨rfl, hb7⟩
          go_wp2_with fail
          go_roundw
          case rel => exact ⟨k + 1, by omega, by go_num, below_step (below_step (below_step hbr hb5) hb6) hb7⟩
          case measure => simp [intOf]; omega
        · have HV := Lib.hid hv; clear hv
          refine (str_at T ⟨#[]⟩ _ _ _ _ hTm HV.out).mono ?_; rintro e w6 ⟨rfl, hb6⟩
          go_wp2_with fail
          refine (putS ⟨#[]⟩ _ (by decide)).mono ?_; rintro e w7 ⟨rfl, hb7⟩
          go_wp2_with fail
          go_roundw
          case rel => exact ⟨k + 1, by omega, by go_num, below_step (below_step (below_step hbr hb5) hb6) hb7⟩
          case measure => simp [intOf]; omega
      · have HI := Lib.hid hi; clear hi
        go_wp2_with fail
        refine (int_at T _ _ _ _ _ hTm HI.out).mono ?_; rintro e w4 ⟨rfl, rfl⟩
        go_wp2_with fail
        refine (putI 0 (by omega) (by omega) _).mono ?_; rintro e w5 ⟨rfl, hb5⟩
        go_wp2_with fail
        rcases SA with ⟨v, mx, hv, v1, v2, v3, hY⟩ | hv
        · have HV := Lib.hid hv; clear hv
          have en : decide ((mx : Int) < (kk : Int)) = false := by simp; omega
          have em : decide ((T.size : Int) < (mx : Int)) = false := by simp; omega
          refine (str_at T v _ _ _ _ hTm HV.out).mono ?_; rintro e w6 ⟨rfl, hb6⟩
          go_wp2_with fail
          refine (putS v _ v1).mono ?_; rintro e w7 ⟨rfl, hb7⟩
          go_wp2_with fail
          go_roundw
          case rel => exact ⟨k + 1, by omega, by go_num, below_step (below_step (below_step hbr hb5) hb6) hb7⟩
          case measure => simp [intOf]; omega
        · have HV := Lib.hid hv; clear hv
          refine (str_at T ⟨#[]⟩ _ _ _ _ hTm HV.out).mono ?_; rintro e w6 ⟨rfl, hb6⟩
          go_wp2_with fail
          refine (putS ⟨#[]⟩ _ (by decide)).mono ?_; rintro e w7 ⟨rfl, hb7⟩
          go_wp2_with fail
          go_roundw
          case rel => exact ⟨k + 1, by omega, by go_num, below_step (below_step (below_step hbr hb5) hb6) hb7⟩
          case measure => simp [intOf]; omega
    · go_wp2_with fail
      go_ret
      exact ⟨rfl, below_step hb3 hbr⟩
end Go.Proofs.YtfiigjkcmnlddaaDoor
