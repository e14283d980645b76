/-
  The contract of layer 2's small helper hex.
-/
import Derived.Test.YtbaggjhjkignkaaDoorSums
namespace Go.Proofs.YtbaggjhjkignkaaDoor
open Go.RowKit

/-- The sixteen digits. -/
def hexA : ByteArray := ⟨#[48, 49, 50, 51, 52, 53, 54, 55, 56, 57, 97, 98, 99, 100, 101, 102]⟩
/-- A string in hexadecimal, to a length. -/
def hexTo (s : ByteArray) : Nat → ByteArray
  | 0 => ⟨#[]⟩
  | k + 1 => hexTo s k ++ hexA.extract ((s.data.getD k 0).toNat / 16) ((s.data.getD k 0).toNat / 16 + 1) ++ hexA.extract ((s.data.getD k 0).toNat % 16) ((s.data.getD k 0).toNat % 16 + 1)
def hexS (s : ByteArray) : ByteArray := hexTo s s.size

theorem hexTo_size (s : ByteArray) : ∀ k, (hexTo s k).size = 2 * k
  | 0 => rfl
  | k + 1 => by
    have h := (s.data.getD k 0).toNat_lt
    rw [hexTo, ByteArray.size_append, ByteArray.size_append, ByteArray.size_extract, ByteArray.size_extract, hexTo_size s k]
    show 2 * k + (min _ 16 - _) + (min _ 16 - _) = _
    omega

set_option maxRecDepth 100000 in
set_option maxHeartbeats 1000000 in
theorem hex_any (s : ByteArray) (w : World) (hs : s.size ≤ 1000) :
    Calls Tryd.prog 25 #[.string s] w fun e w' => e = .returned (.string (hexS s)) ∧ Below w.heap.size w w' := by
  go_enter Tryd.func25, Tryd.ntmps25
  go_wp2_with fail
  go_loopw [3, 4] (fun o k wr => ∃ j : Nat, o = .string (hexTo s j) ∧ k = .int .i64 j ∧ j ≤ s.size ∧ Below w.heap.size w wr) (fun _ k _ => s.size - (intOf k).toNat)
  case atStart => exact ⟨0, rfl, rfl, by omega, Below.refl _ _⟩
  case round =>
    obtain ⟨j, rfl, rfl, hj, hB⟩ := hrel
    by_cases h : (j : Int) < (s.size : Int)
    · have hz := hexTo_size s j
      have hj' : j < s.size := by omega
      have hg : s.data.getD j 0 = s[j] := by
        rw [Array.getD_eq_getD_getElem?, Array.getElem?_eq_getElem (show j < s.data.size from hj')]
        rfl
      have hn : hexTo s (j + 1) = hexTo s j ++ hexA.extract (s[j].toNat / 16) (s[j].toNat / 16 + 1) ++ hexA.extract (s[j].toNat % 16) (s[j].toNat % 16 + 1) := by rw [← hg]; rfl
      have hb := s[j].toNat_lt
      have HN := Lib.hid hn
      have e1 : ∀ W, (Instr.slice 9 (.string ⟨#[48, 49, 50, 51, 52, 53, 54, 55, 56, 57, 97, 98, 99, 100, 101, 102]⟩) (some (.int .u8 ((s[j].toNat : Int) / 16))) (some (.int .u8 ((s[j].toNat : Int) / 16 + 1))) none).run Tryd.prog W = .ok (.string (hexA.extract (s[j].toNat / 16) (s[j].toNat / 16 + 1))) W := fun W => by
        have q := run_slice_string (P := Tryd.prog) W 9 hexA .u8 .u8 ((s[j].toNat : Int) / 16) ((s[j].toNat : Int) / 16 + 1) Tryd.underlying9 (by omega) (by omega) (by show _ ≤ (16 : Int); omega)
        rw [show ((s[j].toNat : Int) / 16).toNat = s[j].toNat / 16 by omega, show ((s[j].toNat : Int) / 16 + 1).toNat = s[j].toNat / 16 + 1 by omega] at q
        exact q
      have e2 : ∀ W, (Instr.slice 9 (.string ⟨#[48, 49, 50, 51, 52, 53, 54, 55, 56, 57, 97, 98, 99, 100, 101, 102]⟩) (some (.int .u8 ((s[j].toNat : Int) % 16))) (some (.int .u8 ((s[j].toNat : Int) % 16 + 1))) none).run Tryd.prog W = .ok (.string (hexA.extract (s[j].toNat % 16) (s[j].toNat % 16 + 1))) W := fun W => by
        have q := run_slice_string (P := Tryd.prog) W 9 hexA .u8 .u8 ((s[j].toNat : Int) % 16) ((s[j].toNat : Int) % 16 + 1) Tryd.underlying9 (by omega) (by omega) (by show _ ≤ (16 : Int); omega)
        rw [show ((s[j].toNat : Int) % 16).toNat = s[j].toNat % 16 by omega, show ((s[j].toNat : Int) % 16 + 1).toNat = s[j].toNat % 16 + 1 by omega] at q
        exact q
      clear hn hg
      go_wp2_with fail
      go_region
      go_wp2_with fail
      go_roundw
      case rel => exact ⟨j + 1, by rw [HN.out], by go_num, by omega, hB.drew⟩
      case measure => simp [intOf]; omega
    · have hd : decide ((j : Int) < (s.size : Int)) = false := by simp; omega
      obtain rfl : j = s.size := by omega
      go_wp2_with fail
      go_ret
      exact ⟨rfl, hB⟩
end Go.Proofs.YtbaggjhjkignkaaDoor

