/-
  The walk of WireMatchesReference: it returns true for all arguments. Condition: the table reads as the program's text lays it.
-/
import Derived.Test.YtfiigjkcmnlddaaDoorRefInt
import Derived.Test.YtfiigjkcmnlddaaDoorRefSum
import Derived.Test.YtfiigjkcmnlddaaDoorSane
namespace Go.Proofs.YtfiigjkcmnlddaaDoor
open Go.RowKit

/-- PutInt and the reference's PutInt give one answer. -/
theorem put_both (n : Int) : ∃ (t : ByteArray) (x : Int), (∀ w, Calls Tryd.prog 12 #[.int .i64 n] w fun e w' => e = .returned (.tuple #[.string t, .int .i64 x]) ∧ Below w.heap.size w w') ∧
    (∀ w, Calls Tryd.prog 13 #[.int .i64 n] w fun e w' => e = .returned (.tuple #[.string t, .int .i64 x]) ∧ Below w.heap.size w w') :=
  ⟨⟨(Enc.putBytes n).toArray⟩, Enc.putErr n, fun w => putInt_any n w, fun w => refPutInt_any n w⟩
theorem int_both (s : ByteArray) (k : Int) (hs : s.size ≤ maxLen) : ∃ (n x e : Int), (∀ w, Calls Tryd.prog 15 #[.string s, .int .i64 k] w fun r w' => r = .returned (.tuple #[.int .i64 n, .int .i64 x, .int .i64 e]) ∧ w = w') ∧
    (∀ w, Calls Tryd.prog 16 #[.string s, .int .i64 k] w fun r w' => r = .returned (.tuple #[.int .i64 n, .int .i64 x, .int .i64 e]) ∧ Below w.heap.size w w') := by
  obtain ⟨n, x, e, h⟩ : ∃ n x e, Enc.intV s.data.toList k = (n, x, e) := ⟨_, _, _, rfl⟩
  exact ⟨n, x, e, fun w => int_at s k n x e w hs h, fun w => refInt_at s k n x e w hs h⟩
theorem str_both (s : ByteArray) (k : Int) (hs : s.size ≤ maxLen) : ∃ (t : ByteArray) (x e : Int), (∀ w, Calls Tryd.prog 17 #[.string s, .int .i64 k] w fun r w' => r = .returned (.tuple #[.string t, .int .i64 x, .int .i64 e]) ∧ Below w.heap.size w w') ∧
    (∀ w, Calls Tryd.prog 18 #[.string s, .int .i64 k] w fun r w' => r = .returned (.tuple #[.string t, .int .i64 x, .int .i64 e]) ∧ Below w.heap.size w w') :=
  ⟨⟨(Enc.strV s.data.toList k).1.toArray⟩, (Enc.strV s.data.toList k).2.1, (Enc.strV s.data.toList k).2.2, fun w => str_any s k w hs, fun w => refStr_any s k w hs⟩
theorem pstr_both (s : ByteArray) (hs : s.size ≤ maxLen) : ∃ (t : ByteArray) (x : Int), (∀ w, Calls Tryd.prog 19 #[.string s] w fun e w' => e = .returned (.tuple #[.string t, .int .i64 x]) ∧ Below w.heap.size w w') ∧
    (∀ w, Calls Tryd.prog 20 #[.string s] w fun e w' => e = .returned (.tuple #[.string t, .int .i64 x]) ∧ Below w.heap.size w w') :=
  ⟨⟨(Enc.pstrBytes s.data.toList).toArray⟩, Enc.pstrErr s.data.toList, fun w => pstr_any s w hs, fun w => refPstr_any s w hs⟩

set_option maxRecDepth 100000 in
set_option maxHeartbeats 4000000 in
theorem matches_walk (n : Int) (s : ByteArray) (at' : Int) (w : World) (ht : Tab w)
    (n1 : -9223372036854775808 ≤ n) (n2 : n ≤ 9223372036854775807) (hs : s.size ≤ maxLen) (a1 : -9223372036854775808 ≤ at') (a2 : at' ≤ 9223372036854775807) :
    Calls Tryd.prog 3 #[.int .i64 n, .string s, .int .i64 at'] w fun e w' => e = .returned (.bool true) ∧ Below w.heap.size w w' := by
  unfold maxLen at hs
  have HT := Lib.hid ht
  clear ht
  have hp := cut_size' s 300 (by omega)
  go_enter Tryd.func3, Tryd.ntmps3
  go_wp2_with fail
  refine (sane_any _ HT.out).mono ?_; rintro e w1 ⟨rfl, hb1⟩
  go_wp2_with fail
  refine (num_any n _ n1 n2).mono ?_; rintro e w2 ⟨rfl, hb2⟩
  generalize s.extract 0 (min (s.size : Int) 300).toNat = T at hp ⊢
  generalize numS n = n' at *
  go_wp2_with fail
  have hb3 : Below w.heap.size w (w2.alloc (.cells #[.int .i64 n, .int .i64 n'] 3)) := below_step (below_step hb1 hb2) ((Below.refl _ _).alloc (Nat.le_refl _) _)
  have c0 : (w2.alloc (.cells #[.int .i64 n, .int .i64 n'] 3)).cell? ⟨w2.heap.size, 0, none⟩ = some (.int .i64 n) := World.cell?_alloc_mark _ _ _ (0, 0) 0
  have c1 : (w2.alloc (.cells #[.int .i64 n, .int .i64 n'] 3)).cell? ⟨w2.heap.size, 1, none⟩ = some (.int .i64 n') := World.cell?_alloc_mark _ _ _ (0, 0) 1
  have hlt3 : w2.heap.size < (w2.alloc (.cells #[.int .i64 n, .int .i64 n'] 3)).heap.size := by simp
  generalize w2.alloc (.cells #[.int .i64 n, .int .i64 n'] 3) = w3 at hb3 c0 c1 hlt3 ⊢
  generalize w2.heap.size = B2 at c0 c1 hlt3 ⊢
  go_loopw [44] (fun i wr => ∃ k : Nat, k ≤ 2 ∧ i = .int .i64 k ∧ Below w3.heap.size w3 wr) (fun i _ => 2 - (intOf i).toNat)
  case atStart => exact ⟨0, by omega, rfl, Below.refl _ _⟩
  case round =>
    obtain ⟨k, hk, rfl, hbr⟩ := hrel
    by_cases h2 : k < 2
    · obtain ⟨kk, hc⟩ : ∃ kk : Int, wr.cell? ⟨B2, k, none⟩ = some (.int .i64 kk) := by
        rcases (by omega : k = 0 ∨ k = 1) with rfl | rfl
        · exact ⟨n, (hbr.cell (p := ⟨B2, 0, none⟩) hlt3).trans c0⟩
        · exact ⟨n', (hbr.cell (p := ⟨B2, 1, none⟩) hlt3).trans c1⟩
      obtain ⟨t, x, P1, P2⟩ := put_both kk
      have P1 := Lib.hid P1
      have P2 := Lib.hid P2
      go_wp2_with fail
      refine (P1.out _).mono ?_; rintro e w4 ⟨rfl, hb4⟩
      go_wp2_with fail
      refine (P2.out _).mono ?_; rintro e w5 ⟨rfl, hb5⟩
      go_wp2_with fail
      go_roundw
      case rel => exact ⟨k + 1, by omega, by go_num, below_step (below_step hbr hb4) hb5⟩
      case measure => simp [intOf]; omega
    · have hb4 := below_step hb3 hbr
      clear hbr hb3 hb2 hb1 c0 c1 hlt3
      obtain ⟨j, hj, ej⟩ := pick_nat at' (T.size + 2) (by omega)
      have PJ := Lib.hid (fun w => by have := pick_any at' ((T.size + 2 : Nat) : Int) w a1 a2 (by omega) (by omega); rw [ej, Int.natCast_add] at this; exact this)
      clear ej
      go_wp2_with fail
      refine (PJ.out _).mono ?_; rintro e w3 ⟨rfl, rfl⟩
      go_wp2_with fail
      have hb5 : Below w.heap.size w (wr.alloc (.cells #[.int .i64 at', .int .i64 (j : Int)] 3)) := below_step hb4 ((Below.refl _ _).alloc (Nat.le_refl _) _)
      have c0 : (wr.alloc (.cells #[.int .i64 at', .int .i64 (j : Int)] 3)).cell? ⟨wr.heap.size, 0, none⟩ = some (.int .i64 at') := World.cell?_alloc_mark _ _ _ (0, 0) 0
      have c1 : (wr.alloc (.cells #[.int .i64 at', .int .i64 (j : Int)] 3)).cell? ⟨wr.heap.size, 1, none⟩ = some (.int .i64 (j : Int)) := World.cell?_alloc_mark _ _ _ (0, 0) 1
      have hlt5 : wr.heap.size < (wr.alloc (.cells #[.int .i64 at', .int .i64 (j : Int)] 3)).heap.size := by simp
      generalize wr.alloc (.cells #[.int .i64 at', .int .i64 (j : Int)] 3) = w5 at hb5 c0 c1 hlt5 ⊢
      generalize wr.heap.size = B5 at c0 c1 hlt5 ⊢
      clear hb4
      have hTm : T.size ≤ maxLen := by unfold maxLen; omega
      go_loopw [75] (fun i wz => ∃ q : Nat, q ≤ 2 ∧ i = .int .i64 q ∧ Below w5.heap.size w5 wz) (fun i _ => 2 - (intOf i).toNat)
      case atStart => exact ⟨0, by omega, rfl, Below.refl _ _⟩
      case round =>
        obtain ⟨q, hq, rfl, hbz⟩ := hrel
        by_cases h2' : q < 2
        · obtain ⟨kk, hc⟩ : ∃ kk : Int, wr.cell? ⟨B5, q, none⟩ = some (.int .i64 kk) := by
            rcases (by omega : q = 0 ∨ q = 1) with rfl | rfl
            · exact ⟨at', (hbz.cell (p := ⟨B5, 0, none⟩) hlt5).trans c0⟩
            · exact ⟨(j : Int), (hbz.cell (p := ⟨B5, 1, none⟩) hlt5).trans c1⟩
          obtain ⟨m, x, er, I1, I2⟩ := int_both T kk hTm
          obtain ⟨t, y, er2, S1, S2⟩ := str_both T kk hTm
          have I1 := Lib.hid I1
          have I2 := Lib.hid I2
          have S1 := Lib.hid S1
          have S2 := Lib.hid S2
          go_wp2_with fail
          refine (I1.out _).mono ?_; rintro e w6 ⟨rfl, rfl⟩
          go_wp2_with fail
          refine (I2.out _).mono ?_; rintro e w7 ⟨rfl, hb7⟩
          go_wp2_with fail
          refine (S1.out _).mono ?_; rintro e w8 ⟨rfl, hb8⟩
          go_wp2_with fail
          refine (S2.out _).mono ?_; rintro e w9 ⟨rfl, hb9⟩
          go_wp2_with fail
          go_roundw
          case rel => exact ⟨q + 1, by omega, by go_num, below_step (below_step (below_step hbz hb7) hb8) hb9⟩
          case measure => simp [intOf]; omega
        · have hb6 := below_step hb5 hbz
          clear hbz hb5 c0 c1 hlt5
          obtain ⟨t, x, P1, P2⟩ := pstr_both T hTm
          have P1 := Lib.hid P1
          have P2 := Lib.hid P2
          go_wp2_with fail
          refine (P1.out _).mono ?_; rintro e w7 ⟨rfl, hb7⟩
          go_wp2_with fail
          refine (P2.out _).mono ?_; rintro e w8 ⟨rfl, hb8⟩
          have hb9 := below_step (below_step hb6 hb7) hb8
          have HW := Lib.hid (HT.out.below hb9)
          go_wp2_with fail
          refine (sum_any T _ hTm HW.out).mono ?_; rintro e w10 ⟨rfl, rfl⟩
          go_wp2_with fail
          refine (refSum_any T _ hTm).mono ?_; rintro e w11 ⟨rfl, rfl⟩
          go_wp2_with fail
          go_ret
          exact ⟨rfl, hb9⟩
end Go.Proofs.YtfiigjkcmnlddaaDoor
