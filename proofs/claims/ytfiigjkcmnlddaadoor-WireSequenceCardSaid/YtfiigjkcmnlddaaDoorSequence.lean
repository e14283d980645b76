/-
  The walk of WireSequence: it returns true for all arguments. Condition: the table reads as the program's text lays it.
-/
import Derived.Test.YtfiigjkcmnlddaaDoorSeq
import Derived.Test.YtfiigjkcmnlddaaDoorSane
import Derived.Test.YtfiigjkcmnlddaaDoorUnique
import Derived.LoopTactic
import Derived.RegionTactic
import Derived.ChangeAlike
import Derived.StillTailTactics
import Derived.Deep.RegionHeld3
namespace Go.Proofs.YtfiigjkcmnlddaaDoor
open Go.RowKit

set_option maxRecDepth 100000 in
set_option maxHeartbeats 4000000 in
theorem sequence_walk (a : Option Addr) (n c : Nat) (z : Nat → Int) (a' : Option Addr) (n' c' : Nat) (y : Nat → ByteArray) (w : World) (ht : Tab w)
    (hz : IntsAt w a n z) (hy : StrsAt w a' n' y) :
    Calls Tryd.prog 6 #[.slice a n c, .slice a' n' c'] w fun e w' => e = .returned (.bool true) ∧ Below w.heap.size w w' := by
  have HT := Lib.hid ht
  clear ht
  have HZ := Lib.hid hz
  have HY := Lib.hid hy
  clear hz hy
  obtain ⟨q, hq, hq1, hq2, hq3⟩ : ∃ q : Nat, min (min (n : Int) n') 20 = q ∧ q ≤ n ∧ q ≤ n' ∧ q ≤ 20 := ⟨min (min n n') 20, by omega, by omega, by omega, by omega⟩
  have hmin : ∀ (w : World) (ts : Array TypeId) (t : TypeId), (Builtin.min_ ts t #[.int .i64 n, .int .i64 n', .int .i64 20]).run Tryd.prog w = .ok (.int .i64 q) w := fun w ts t => by
    rw [run_min3, hq]
  clear hq
  go_enter Tryd.func6, Tryd.ntmps6
  go_wp2_with fail
  refine (sane_any _ HT.out).mono ?_; rintro e w1 ⟨rfl, hb1⟩
  go_wp2_with fail
  go_loopw [7, 8] (fun s i wr => ∃ k : Nat, k ≤ q ∧ i = .int .i64 k ∧ s = .string (seqS z y k) ∧ Below w1.heap.size w1 wr) (fun _ i _ => q - (intOf i).toNat)
  case atStart => exact ⟨0, by omega, rfl, rfl, Below.refl _ _⟩
  case round =>
    obtain ⟨k, hk, rfl, rfl, hbr⟩ := hrel
    by_cases h2 : k < q
    · obtain ⟨b, off, rfl, l1, l2, l3, l4⟩ := ((HZ.out.below hb1).below hbr) k (by omega)
      obtain ⟨b', off', rfl, m1, m2, m3⟩ := ((HY.out.below hb1).below hbr) k (by omega)
      have HN := Lib.hid (fun w => num_any (z k) w l3 l4)
      have bn := numS_bd (z k)
      have HP := Lib.hid (fun w => putI (numS (z k)) (by omega) (by omega) w)
      have hkn : k < n := by omega
      have hkn' : k < n' := by omega
      clear l3 l4 bn
      go_wp2_with fail
      refine (HN.out _).mono ?_; rintro e w2 ⟨rfl, hb2⟩
      go_wp2_with fail
      refine (HP.out _).mono ?_; rintro e w3 ⟨rfl, hb3⟩
      have m2' : w3.cell? ⟨b', off' + k, none⟩ = some (.string (y k)) := ((below_step hb2 hb3).cell (p := ⟨b', off' + k, none⟩) m1).trans m2
      go_wp2_with fail
      have hB3 : Below w1.heap.size w1 w3 := below_step (below_step hbr hb2) hb3
      have l5 : b' < w3.heap.size := Nat.lt_of_lt_of_le m1 (Nat.le_trans hb2.size hb3.size)
      have hci : (k : Int) < (n' : Int) := by omega
      have HS := Lib.hid (fun w => putS (cutS (y k)) w (by have := cutS_le (y k); omega))
      have hsl : 0 ≤ min ((y k).size : Int) 100 ∧ min ((y k).size : Int) 100 ≤ ((y k).size : Int) := by omega
      have hcut : (y k).extract 0 (min ((y k).size : Int) 100).toNat = cutS (y k) := rfl
      clear hb1 hbr l1 l2 m1 m2 hb2 hb3 HN HP
      go_region_held3 (fun w' => w'.cell? ⟨b', off' + k, none⟩ = some (.string (y k)) ∧ b' < w'.heap.size ∧ Below w1.heap.size w1 w') (first | exact ⟨m2', l5, hB3.drew⟩ | (have hX := (hb4.cell (p := ⟨b', off' + k, none⟩) l5).trans m2'; have hY := Nat.lt_of_lt_of_le l5 hb4.size; have hZ' := below_step hB3.drew hb4; exact ⟨hX, hY, hZ'⟩)) (first | (go_at_call 19; rw [hcut]; refine (HS.out _).mono ?_; rintro e w4 ⟨rfl, hb4⟩) | (go_at_call 19; refine (HS.out _).mono ?_; rintro e w4 ⟨rfl, hb4⟩))
      have hb5 : Below w1.heap.size w1 w4 := below_step hB3.drew hb4
      have hZ1 := seqS_le z y k
      have hZ2 := encN_le (numS (z k))
      have hZ3 := pstrC_le (y k)
      clear HS hcut hsl hB3 hb4
      go_wp2_with fail
      go_roundw
      case rel => exact ⟨k + 1, by omega, by go_num, rfl, hb5⟩
      case measure => simp [intOf]; omega
    · obtain rfl : k = q := by omega
      have hZ1 := seqS_le z y k
      have hb5 : Below w.heap.size w wr := below_step hb1 hbr
      clear hb1 hbr h2 hk
      have hTm : (seqS z y k).size ≤ maxLen := by unfold maxLen; omega
      go_wp2_with fail
      go_loopw [13, 14] (fun p i wr' => ∃ j : Nat, j ≤ k ∧ i = .int .i64 j ∧ p = .int .i64 ((seqS z y j).size : Int) ∧ Below w.heap.size w wr') (fun _ i _ => k - (intOf i).toNat)
      case atStart => exact ⟨0, by omega, rfl, rfl, hb5⟩
      case round =>
        obtain ⟨j, hj, rfl, rfl, hbs⟩ := hrel
        by_cases h3 : j < k
        · have hi := seq_int z y h3
          have hv : Enc.strV (seqS z y k).data.toList (((seqS z y j).size : Int) + ((encS (numS (z j))).size : Int)) = (((y j).extract 0 (min ((y j).size : Int) 100).toNat).data.toList, ((seqS z y (j + 1)).size : Int), 0) := seq_str z y h3
          have HI := Lib.hid hi
          have HV := Lib.hid hv
          clear hi hv
          obtain ⟨b, off, rfl, l1, l2, l3, l4⟩ := (HZ.out.below hbs) j (by omega)
          obtain ⟨b', off', rfl, m1, m2, m3⟩ := (HY.out.below hbs) j (by omega)
          have HN := Lib.hid (fun w => num_any (z j) w l3 l4)
          have hkn : (j : Int) < (n : Int) := by omega
          have hkn' : (j : Int) < (n' : Int) := by omega
          have hsl : 0 ≤ min ((y j).size : Int) 100 ∧ min ((y j).size : Int) 100 ≤ ((y j).size : Int) := by omega
          clear l3 l4 hmin
          go_wp2_with fail
          refine (int_at _ _ _ _ _ _ hTm HI.out).mono ?_; rintro e w2 ⟨rfl, rfl⟩
          go_wp2_with fail
          refine (str_at _ _ _ _ _ _ hTm HV.out).mono ?_; rintro e w3 ⟨rfl, hb3⟩
          have l2' : w3.cell? ⟨b, off + j, none⟩ = some (.int .i64 (z j)) := (hb3.cell (p := ⟨b, off + j, none⟩) l1).trans l2
          have m2' : w3.cell? ⟨b', off' + j, none⟩ = some (.string (y j)) := (hb3.cell (p := ⟨b', off' + j, none⟩) m1).trans m2
          have l5 : b < w3.heap.size := Nat.lt_of_lt_of_le l1 hb3.size
          have m5 : b' < w3.heap.size := Nat.lt_of_lt_of_le m1 hb3.size
          have hB3 : Below w.heap.size w w3 := below_step hbs hb3
          clear l1 l2 m1 m2 hb3 HI HV hb5 hbs
          go_wp2_with fail
          go_region_held3 (fun w' => w'.cell? ⟨b, off + j, none⟩ = some (.int .i64 (z j)) ∧ w'.cell? ⟨b', off' + j, none⟩ = some (.string (y j))) (first | exact ⟨l2', m2'⟩ | (have hX := (hb4.cell (p := ⟨b, off + j, none⟩) l5).trans l2'; have hY := (hb4.cell (p := ⟨b', off' + j, none⟩) m5).trans m2'; exact ⟨hX, hY⟩)) (first | (go_at_call 11; refine (HN.out _).mono ?_; rintro e w4 ⟨rfl, hb4⟩))
          have hb5 : Below w.heap.size w w4 := below_step hB3.drew hb4
          clear HN hsl hB3 hb4 l2' m2' l5 m5
          go_wp2_with fail
          go_roundw
          case rel => exact ⟨j + 1, by omega, by go_num, rfl, hb5⟩
          case measure => simp [intOf]; omega
        · obtain rfl : j = k := by omega
          have HE := Lib.hid (seq_end (seqS z y j))
          clear h3 hj hb5
          go_wp2_with fail
          refine (int_at _ _ _ _ _ _ hTm HE.out).mono ?_; rintro e w2 ⟨rfl, rfl⟩
          go_wp2_with fail
          go_ret
          exact ⟨rfl, hbs⟩
end Go.Proofs.YtfiigjkcmnlddaaDoor
