/-
  The contract of the reference implementation's Sum, for every string.
-/
import Derived.Test.YtfiigjkcmnlddaaDoorSum
namespace Go.Proofs.YtfiigjkcmnlddaaDoor
open Go.RowKit

theorem step_nat (x : BitVec 32) : (Crc.step x).toNat = if x.toNat % 2 = 1 then x.toNat / 2 ^^^ 2197175160 else x.toNat / 2 := by
  unfold Crc.step
  have h0 : x.getLsbD 0 = decide (x.toNat % 2 = 1) := by
    rw [BitVec.getLsbD, Nat.testBit_zero]
  rw [h0, BitVec.toNat_xor, BitVec.toNat_ushiftRight, Nat.shiftRight_eq_div_pow]
  by_cases h : x.toNat % 2 = 1
  · simp [h]
  · simp [h]
theorem steps_snoc (k : Nat) (x : BitVec 32) : Crc.steps (k + 1) x = Crc.step (Crc.steps k x) := by
  rw [Crc.steps_add k 1]; rfl

/-- The register within a byte. -/
def within (s : ByteArray) (i k : Nat) : BitVec 32 := Crc.steps k (Crc.reg 0xFFFFFFFF#32 (s.data.toList.take i) ^^^ BitVec.ofNat 32 (s.data.toList.getD i 0).toNat)
theorem within_zero (s : ByteArray) (i : Nat) (h : i < s.size) : (within s i 0).toNat = regTo s i ^^^ s[i].toNat := by
  unfold within Crc.steps regTo
  have e : s.data.toList.getD i 0 = s[i] := by
    rw [List.getD, List.getElem?_eq_getElem (by simpa using h)]; rfl
  have hb : s[i].toNat < 2 ^ 32 := by have := s[i].toNat_lt; omega
  rw [e, BitVec.toNat_xor, BitVec.toNat_ofNat, Nat.mod_eq_of_lt hb]
theorem within_succ (s : ByteArray) (i k : Nat) : (within s i (k + 1)).toNat = if (within s i k).toNat % 2 = 1 then (within s i k).toNat / 2 ^^^ 2197175160 else (within s i k).toNat / 2 := by
  unfold within
  rw [steps_snoc, step_nat]
theorem within_eight (s : ByteArray) (i : Nat) (h : i < s.size) : (within s i 8).toNat = regTo s (i + 1) := by
  rw [regTo_succ s i h]
  unfold within Crc.byteStep
  have e : s.data.toList.getD i 0 = s[i] := by
    rw [List.getD, List.getElem?_eq_getElem (by simpa using h)]; rfl
  rw [e]
theorem within_lt (s : ByteArray) (i k : Nat) : (within s i k).toNat < 4294967296 := (within s i k).isLt

set_option maxRecDepth 100000 in
set_option maxHeartbeats 1000000 in
theorem refSum_any (s : ByteArray) (w : World) (hs : s.size ≤ maxLen) :
    Calls Tryd.prog 22 #[.string s] w fun e w' => e = .returned (.int .i64 ((Crc.sum s.data.toList : Nat) : Int)) ∧ w = w' := by
  unfold maxLen at hs
  go_enter Tryd.func22, Tryd.ntmps22
  go_wp2
  go_loop [3, 4] (fun r i => ∃ k : Nat, k ≤ s.size ∧ i = .int .i64 k ∧ r = .int .u32 ((regTo s k : Nat) : Int)) (fun _ i => s.size - (intOf i).toNat)
  case atStart => exact ⟨0, Nat.zero_le _, rfl, rfl⟩
  case round =>
    obtain ⟨i, hi, rfl, rfl⟩ := hrel
    by_cases hlt : i < s.size
    · have hr := regTo_lt s i
      have hb : s[i].toNat < 256 := s[i].toNat_lt
      have hw := within_zero s i hlt
      have h8 := within_eight s i hlt
      have W8 := Lib.hid h8
      have W0 := Lib.hid hw
      have WL := Lib.hid (fun k => within_lt s i k)
      have WS := Lib.hid (fun k => within_succ s i k)
      generalize within s i = W at *
      have f1 : bits BinOp.xor IntKind.u32 ((regTo s i : Nat) : Int) ((s[i].toNat : Nat) : Int) = (((W 0).toNat : Nat) : Int) := by rw [u32_xor _ _ hr (by omega), W0.out]
      have hl0 := WL.out 0
      clear hw h8
      go_wp2_with fail
      go_loop [3, 5] (fun r c => ∃ k : Nat, k ≤ 8 ∧ c = .int .i64 k ∧ r = .int .u32 (((W k).toNat : Nat) : Int)) (fun _ c => 8 - (intOf c).toNat)
      case atStart => exact ⟨0, by omega, rfl, rfl⟩
      case round =>
        obtain ⟨k, hk, rfl, rfl⟩ := hrel
        by_cases hk8 : k < 8
        · have hl := WL.out k
          have hs1 := WS.out k
          have hl1 := WL.out (k + 1)
          generalize (W k).toNat = x at *
          by_cases hp : x % 2 = 1
          · have ht : ((x : Int) % 2 == 1) = true := by rw [beq_iff_eq]; omega
            rw [if_pos hp] at hs1
            have f2 : bits BinOp.xor IntKind.u32 ((x : Int) / 2) 2197175160 = (((W (k + 1)).toNat : Nat) : Int) := by
              have e := u32_xor (x / 2) 2197175160 (by omega) (by omega)
              rw [hs1, ← e]; congr 1
            clear hs1
            go_wp2_with fail
            go_round
            case rel => exact ⟨k + 1, by omega, by go_num, rfl⟩
            case measure => simp [intOf]; omega
          · have ht : ((x : Int) % 2 == 1) = false := by rw [beq_eq_false_iff_ne]; omega
            rw [if_neg hp] at hs1
            have HS := Lib.hid hs1
            clear hs1
            go_wp2_with fail
            go_round
            case rel => exact ⟨k + 1, by omega, by go_num, by rw [HS.out]; rfl⟩
            case measure => simp [intOf]; omega
        · obtain rfl : k = 8 := by omega
          go_wp2_with fail
          go_round
          case rel => exact ⟨i + 1, by omega, by go_num, by rw [W8.out]⟩
          case measure => simp [intOf]; omega
    · have he : i = s.size := by omega
      subst he
      have hr := regTo_lt s s.size
      have hv := regTo_all s
      have HV := Lib.hid hv; clear hv
      have hn := u32_not _ hr
      have HN := Lib.hid hn; clear hn
      go_wp2
      go_ret
      refine ⟨ret_int ?_, rfl⟩
      show wrap64 (bits BinOp.xor IntKind.u32 IntKind.u32.max _) = _
      rw [HN.out, HV.out]
      exact IntWalk.wrap64_in _ ⟨by omega, by omega⟩
end Go.Proofs.YtfiigjkcmnlddaaDoor
