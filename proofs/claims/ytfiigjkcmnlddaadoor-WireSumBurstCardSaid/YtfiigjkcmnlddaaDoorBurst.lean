/-
  The walk of WireSumBurst: it returns true for all arguments. Condition: the table reads as the program's text lays it.
-/
import Derived.Test.YtfiigjkcmnlddaaDoorAffine
import Derived.Test.YtfiigjkcmnlddaaDoorTruncated
import Derived.Test.YtfiigjkcmnlddaaDoorMask
namespace Go.Proofs.YtfiigjkcmnlddaaDoor
open Go.RowKit

/-- '[]byte(s)' lays a row of s's bytes. -/
theorem RowIs.ofString (w : World) (s : ByteArray) : ∃ (cap : Nat) (w' : World), (convert 9 38 (.string s)).run Tryd.prog w = .ok (.slice (some ⟨w.heap.size, 0, none⟩) s.size cap) w' ∧
    RowIs w' w.heap.size s.data.toList ∧ Below w.heap.size w w' := by
  refine ⟨_, _, run_bytes_of_string w 9 38 5 s Tryd.underlying9 Tryd.underlying38 Tryd.underlying5, ⟨?_, ?_, ?_⟩, ?_⟩
  · simp
  · intro i hi
    have hi' : i < s.data.size := by simpa using hi
    have e := World.cell?_alloc_mark w.drew (bytesRow s (grownCap w s.size 0 5)) 5 ((bytesRow s (grownCap w s.size 0 5)).size, (bytesRow s (grownCap w s.size 0 5)).size + 1) i
    have hz : w.drew.heap.size = w.heap.size := rfl
    rw [hz] at e
    rw [e, bytesRow_at s _ i hi']
    simp
  · intro i hi
    have hi' : i < s.data.size := by simpa using hi
    have e := World.frozen?_alloc_mark w.drew (bytesRow s (grownCap w s.size 0 5)) 5 (bytesRow s (grownCap w s.size 0 5)).size ((bytesRow s (grownCap w s.size 0 5)).size + 1) i
    have hz : w.drew.heap.size = w.heap.size := rfl
    rw [hz] at e
    have hb : i < (bytesRow s (grownCap w s.size 0 5)).size := by
      have := bytesRow_at s (grownCap w s.size 0 5) i hi'
      exact (Array.getElem?_eq_some_iff.1 this).1
    rw [e]
    have : ¬ (bytesRow s (grownCap w s.size 0 5)).size ≤ i := by omega
    simp [this]
  · exact ((Below.refl _ w).drew).alloc (Nat.le_refl _) _

/-- The program's test of bit k. -/
theorem test_bit (Q k : Nat) : (((Q : Int) / 2 ^ k).tmod 2 == 1) = Q.testBit k := by
  have h1 : ((Q / 2 ^ k : Nat) : Int) = (Q : Int) / 2 ^ k := by simp
  rw [← h1, Nat.testBit_eq_decide_div_mod_eq, Int.tmod_eq_emod_of_nonneg (Int.natCast_nonneg _)]
  generalize Q / 2 ^ k = x
  rw [Bool.eq_iff_iff, beq_iff_eq, decide_eq_true_eq]
  omega

set_option maxRecDepth 100000 in
set_option maxHeartbeats 4000000 in
theorem burst_walk (s : ByteArray) (at' : Int) (q : Int) (w : World) (ht : Tab w) (hs : s.size ≤ maxLen)
    (a1 : -9223372036854775808 ≤ at') (a2 : at' ≤ 9223372036854775807) (q1 : 0 ≤ q) (q2 : q ≤ 4294967295) :
    Calls Tryd.prog 8 #[.string s, .int .i64 at', .int .u32 q] w fun e w' => e = .returned (.bool true) ∧ Below w.heap.size w w' := by
  unfold maxLen at hs
  have HT := Lib.hid ht
  clear ht
  obtain ⟨Q, rfl⟩ := Int.eq_ofNat_of_zero_le q1
  obtain ⟨p, ep⟩ : ∃ p, p = s.extract 0 (min (s.size : Int) 300).toNat := ⟨_, rfl⟩
  have hp := cut_size' s 300 (by omega)
  have hns : p.size ≤ s.size := by rw [ep, ByteArray.size_extract]; omega
  have hpe : s.extract 0 p.size = p := by
    apply ByteArray.ext
    apply Array.toList_inj.1
    rw [Lib.extract_data]
    have h1 : p.data.toList = s.data.toList.take (min (s.size : Int) 300).toNat := by rw [ep, Lib.extract_data]; simp
    have h2 : p.size = (min (s.size : Int) 300).toNat := by rw [ep, ByteArray.size_extract]; omega
    rw [h2, h1]; simp
  rw [← ep] at hp
  go_enter Tryd.func8, Tryd.ntmps8
  go_wp2_with fail
  refine (sane_any _ HT.out).mono ?_; rintro e w1 ⟨rfl, hb1⟩
  obtain ⟨cap, w2, hcv, hr0, hbw⟩ := RowIs.ofString w1 p
  have hlp : p.data.toList.length = p.size := toList_len p
  obtain ⟨n, en⟩ : ∃ n, n = p.size := ⟨_, rfl⟩
  rw [← en] at hcv hns hlp hp hpe
  rw [ep] at hcv
  have HR := Lib.hid hr0
  have HB2 := Lib.hid (below_step hb1 hbw)
  have HL := Lib.hid hlp
  have HPE := Lib.hid hpe
  have hB := hb1.size
  clear hr0 hbw ep en hlp hpe
  by_cases hn : n = 0
  · have d0 : ((n : Int) == 0) = true := by rw [beq_iff_eq]; omega
    go_wp2_with fail
    go_ret
    exact ⟨rfl, HB2.out⟩
  have d0 : ((n : Int) == 0) = false := by rw [beq_eq_false_iff_ne]; omega
  by_cases hq : Q = 0
  · have d1 : ((Q : Int) == 0) = true := by rw [beq_iff_eq]; omega
    go_wp2_with fail
    go_ret
    exact ⟨rfl, HB2.out⟩
  have d1 : ((Q : Int) == 0) = false := by rw [beq_eq_false_iff_ne]; omega
  obtain ⟨j, hj, ej⟩ := pick_nat at' (8 * n) (by omega)
  have PJ := Lib.hid (fun w => by have := pick_any at' ((8 * n : Nat) : Int) w a1 a2 (by omega) (by omega); rw [ej, Int.natCast_mul] at this; exact this)
  clear ej
  go_wp2_with fail
  refine (PJ.out _).mono ?_; rintro e w3 ⟨rfl, rfl⟩
  go_wp2_with fail
  generalize w1.heap.size = B at *
  go_loopw [10, 11] (fun ch i wr => ∃ k : Nat, k ≤ 32 ∧ j + k ≤ 8 * n ∧ i = .int .i64 k ∧ ch = .bool (Crc.anyTo Q.testBit k) ∧ RowIs wr B (Crc.flips p.data.toList j k Q.testBit) ∧ Below w.heap.size w wr) (fun _ i _ => 32 - (intOf i).toNat)
  case atStart => exact ⟨0, by omega, by omega, rfl, rfl, by rw [Crc.flips_zero]; exact HR.out, HB2.out⟩
  case round =>
    obtain ⟨k, hk, hjk, rfl, rfl, hr, hbr⟩ := hrel
    have HB := Lib.hid hbr
    have hfl := Crc.flips_length p.data.toList j k Q.testBit
    rw [HL.out] at hfl
    by_cases h32 : k < 32
    · by_cases hend : j + k < 8 * n
      · by_cases hbit : Q.testBit k = true
        · obtain ⟨c, ec⟩ : ∃ c, c = (j + k) / 8 := ⟨_, rfl⟩
          obtain ⟨m, em⟩ : ∃ m, m = (j + k) % 8 := ⟨_, rfl⟩
          have hc : c < n := by omega
          have hm : m < 8 := by omega
          have hcl : c < (Crc.flips p.data.toList j k Q.testBit).length := by omega
          obtain ⟨y, ey⟩ : ∃ y, y = (Crc.flips p.data.toList j k Q.testBit)[c] := ⟨_, rfl⟩
          have hc0 : wr.cell? ⟨B, c, none⟩ = some (.int .u8 ((y.toNat : Nat) : Int)) := by rw [ey]; exact hr.2.1 c hcl
          have hf0 := hr.2.2 c hcl
          have e1 : ((j : Int) + (k : Int)) / 8 = (c : Int) := by omega
          have e2 : ((j : Int) + (k : Int)) % 8 = (m : Int) := by omega
          have e3 : ((j : Int) + (k : Int)).tdiv 8 = (c : Int) := by rw [Int.tdiv_eq_ediv_of_nonneg (by omega)]; exact e1
          have e4 : ((j : Int) + (k : Int)).tmod 8 = (m : Int) := by rw [Int.tmod_eq_emod_of_nonneg (by omega)]; exact e2
          have hbit2 := test_bit Q k
          rw [hbit] at hbit2
          obtain ⟨z, ez⟩ : ∃ z, z = y ^^^ UInt8.ofNat (2 ^ m) := ⟨_, rfl⟩
          have hr2 := RowIs.set hr hcl z
          have hfs := Crc.flips_set p.data.toList j k Q.testBit hbit (by rw [HL.out, ← ec]; exact hc) y (by rw [← ec, List.getElem?_eq_getElem hcl, ey])
          rw [← ec, ← em, ← ez] at hfs
          rw [hfs] at hr2
          have hp2 : (2 : Nat) ^ m < 256 := by
            have : (2 : Nat) ^ m ≤ 2 ^ 7 := Nat.pow_le_pow_right (by omega) (by omega)
            omega
          have f1 : (2 : Int) ^ m % 256 = (((2 : Nat) ^ m : Nat) : Int) := by
            rw [show ((2 : Int) ^ m) = (((2 : Nat) ^ m : Nat) : Int) by simp]
            exact Int.emod_eq_of_lt (Int.natCast_nonneg _) (by exact_mod_cast hp2)
          have f2 : bits BinOp.xor IntKind.u8 ((y.toNat : Nat) : Int) (((2 : Nat) ^ m : Nat) : Int) = ((z.toNat : Nat) : Int) := by
            rw [u8_xor _ _ y.toNat_lt hp2, ez, UInt8.toNat_xor, Enc.toNat_small hp2]
          rw [← f1] at f2
          have HR2 := Lib.hid hr2
          have HY := Lib.hid (Crc.anyTo_yes Q.testBit k hbit)
          have hcn : (c : Int) < (n : Int) := by omega
          have hc1 : (0 : Int) ≤ (c : Int) := by omega
          have hm1 : (0 : Int) ≤ (m : Int) := by omega
          have hm2 : (m : Int) ≤ 8 := by omega
          clear hr hbr hr2 hfs ey ez ec em hbit f1
          go_wp2_with fail
          go_region
          go_wp2_with fail
          go_roundw
          case rel => exact ⟨k + 1, by omega, by omega, by go_num, by rw [HY.out], HR2.out.drew, (HB.out.setCell (p := ⟨B, c, none⟩) hB _).drew⟩
          case measure => simp [intOf]; omega
        · have hbit' : Q.testBit k = false := by simpa using hbit
          have hbit2 := test_bit Q k
          rw [hbit'] at hbit2
          have HY := Lib.hid (Crc.anyTo_no Q.testBit k hbit')
          have HF := Lib.hid (Crc.flips_skip p.data.toList j k Q.testBit hbit')
          clear hbit hbit'
          go_wp2_with fail
          go_roundw
          case rel => exact ⟨k + 1, by omega, by omega, by go_num, by rw [HY.out], by rw [HF.out]; exact hr, HB.out⟩
          case measure => simp [intOf]; omega
      · have hex : decide ((j : Int) + (k : Int) < 8 * (n : Int)) = false := by simp; omega
        have hst : ∀ m : Nat, (convert 38 9 (.slice (some ⟨B, 0, none⟩) n cap)).run Tryd.prog (wr.drewN m) = .ok (.string ⟨(Crc.flips p.data.toList j k Q.testBit).toArray⟩) (wr.drewN m) := fun m => by
          have := (hr.drewN m).string cap
          rw [hfl] at this; exact this
        have hTW : ∀ m, Tab (wr.drewN m) := fun m => (HT.out.below hbr).below (below_drewN (Below.refl _ _) m)
        have hX : (ByteArray.mk (Crc.flips p.data.toList j k Q.testBit).toArray).size ≤ 1000 := by
          rw [show (ByteArray.mk (Crc.flips p.data.toList j k Q.testBit).toArray).size = (Crc.flips p.data.toList j k Q.testBit).length from List.size_toArray, hfl]; omega
        have hA : ∀ t : ByteArray, (t.extract 0 n).size ≤ 1000 := fun t => by rw [ByteArray.size_extract]; omega
        have SS := Lib.hid (fun (t : ByteArray) (h : t.size ≤ 1000) (m : Nat) => sumS_at t (wr.drewN m) h (hTW m))
        have hg : ((((sumS ⟨(Crc.flips p.data.toList j k Q.testBit).toArray⟩ : Nat) : Int)) != ((sumS (s.extract 0 n) : Nat) : Int)) = Crc.anyTo Q.testBit k := by
          rw [HPE.out]
          have e := Crc.sum_flips p.data.toList j k Q.testBit hk (by rw [HL.out]; exact hjk)
          have e1 : sumS ⟨(Crc.flips p.data.toList j k Q.testBit).toArray⟩ = Crc.sum (Crc.flips p.data.toList j k Q.testBit) := by unfold sumS; simp
          have e2 : sumS p = Crc.sum p.data.toList := rfl
          rw [e1, e2]
          generalize Crc.sum (Crc.flips p.data.toList j k Q.testBit) = u at *
          generalize Crc.sum p.data.toList = v at *
          cases h : Crc.anyTo Q.testBit k with
          | false => rw [e.2 h]; simp
          | true =>
            have : u ≠ v := fun c => by rw [e.1 c] at h; cases h
            rw [bne_iff_ne]; omega
        generalize Crc.anyTo Q.testBit k = ch at *
        generalize ByteArray.mk (Crc.flips p.data.toList j k Q.testBit).toArray = X at *
        have HX := Lib.hid hX
        have HA := Lib.hid hA
        clear hX hA hTW hr hbr hfl
        have ka : (0 : Int) ≤ (n : Int) := by omega
        have kb : (n : Int) ≤ (s.size : Int) := by omega
        go_wp2_with fail
        go_quiet ((go_at_call 21; exact Calls.quiet_of_same (SS.out _ (by first | exact HX.out | exact HA.out _) _)))
        go_wp2_with fail
        go_ret
        exact ⟨rfl, below_drewN HB.out _⟩
    · have hex : decide ((k : Int) < 32) = false := by simp; omega
      have hst : ∀ m : Nat, (convert 38 9 (.slice (some ⟨B, 0, none⟩) n cap)).run Tryd.prog (wr.drewN m) = .ok (.string ⟨(Crc.flips p.data.toList j k Q.testBit).toArray⟩) (wr.drewN m) := fun m => by
        have := (hr.drewN m).string cap
        rw [hfl] at this; exact this
      have hTW : ∀ m, Tab (wr.drewN m) := fun m => (HT.out.below hbr).below (below_drewN (Below.refl _ _) m)
      have hX : (ByteArray.mk (Crc.flips p.data.toList j k Q.testBit).toArray).size ≤ 1000 := by
        rw [show (ByteArray.mk (Crc.flips p.data.toList j k Q.testBit).toArray).size = (Crc.flips p.data.toList j k Q.testBit).length from List.size_toArray, hfl]; omega
      have hA : ∀ t : ByteArray, (t.extract 0 n).size ≤ 1000 := fun t => by rw [ByteArray.size_extract]; omega
      have SS := Lib.hid (fun (t : ByteArray) (h : t.size ≤ 1000) (m : Nat) => sumS_at t (wr.drewN m) h (hTW m))
      have hg : ((((sumS ⟨(Crc.flips p.data.toList j k Q.testBit).toArray⟩ : Nat) : Int)) != ((sumS (s.extract 0 n) : Nat) : Int)) = Crc.anyTo Q.testBit k := by
        rw [HPE.out]
        have e := Crc.sum_flips p.data.toList j k Q.testBit hk (by rw [HL.out]; exact hjk)
        have e1 : sumS ⟨(Crc.flips p.data.toList j k Q.testBit).toArray⟩ = Crc.sum (Crc.flips p.data.toList j k Q.testBit) := by unfold sumS; simp
        have e2 : sumS p = Crc.sum p.data.toList := rfl
        rw [e1, e2]
        generalize Crc.sum (Crc.flips p.data.toList j k Q.testBit) = u at *
        generalize Crc.sum p.data.toList = v at *
        cases h : Crc.anyTo Q.testBit k with
        | false => rw [e.2 h]; simp
        | true =>
          have : u ≠ v := fun c => by rw [e.1 c] at h; cases h
          rw [bne_iff_ne]; omega
      generalize Crc.anyTo Q.testBit k = ch at *
      generalize ByteArray.mk (Crc.flips p.data.toList j k Q.testBit).toArray = X at *
      have HX := Lib.hid hX
      have HA := Lib.hid hA
      clear hX hA hTW hr hbr hfl
      have ka : (0 : Int) ≤ (n : Int) := by omega
      have kb : (n : Int) ≤ (s.size : Int) := by omega
      go_wp2_with fail
      go_quiet ((go_at_call 21; exact Calls.quiet_of_same (SS.out _ (by first | exact HX.out | exact HA.out _) _)))
      go_wp2_with fail
      go_ret
      exact ⟨rfl, below_drewN HB.out _⟩
end Go.Proofs.YtfiigjkcmnlddaaDoor
