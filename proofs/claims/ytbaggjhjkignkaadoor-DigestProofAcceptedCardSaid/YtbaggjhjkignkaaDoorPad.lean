/-
  The contract of the package's padding.
-/
import Derived.Test.YtbaggjhjkignkaaDoorSched
import Derived.Laws.MakeOwn
import Derived.OwnWalk
namespace Go.Proofs.YtbaggjhjkignkaaDoor
open Go.RowKit

theorem made_bytes (m : Nat) : madeCells (Value.int .u8 0).cells m = (bytesV (List.replicate m 0)).toArray := by
  apply Array.ext
  · rw [size_madeCells, List.size_toArray, bytesV_length, List.length_replicate]
  · intro i h1 h2
    rw [size_madeCells] at h1
    have h0 : i % 1 = 0 := Nat.mod_one i
    simp [madeCells, bytesV, Value.cells, h0]
    rfl

/-- The last k bytes of a padding. -/
def lenB (n : Nat) : Nat → List UInt8
  | 0 => []
  | k + 1 => UInt8.ofNat (8 * n / 2 ^ (8 * k)) :: lenB n k
theorem lenB_length (n : Nat) : ∀ k, (lenB n k).length = k
  | 0 => rfl
  | k + 1 => by rw [lenB, List.length_cons, lenB_length n k]
/-- A padding with the last k bytes only. -/
def padTo (n z k : Nat) : List UInt8 := 128 :: (List.replicate (z + 8 - k) 0 ++ lenB n k)
theorem padTo_length (n z k : Nat) (h : k ≤ 8) : (padTo n z k).length = z + 9 := by
  unfold padTo; rw [List.length_cons, List.length_append, List.length_replicate, lenB_length]; omega
theorem padTo_all (n : Nat) : padTo n (Sha.padZ n) 8 = Sha.padB n := by
  unfold padTo Sha.padB; rfl
theorem padTo_set (n z k : Nat) (h : k < 8) : (padTo n z k).set (z + 8 - k) (UInt8.ofNat (8 * n / 2 ^ (8 * k))) = padTo n z (k + 1) := by
  unfold padTo
  obtain ⟨m, hm⟩ : ∃ m, z + 8 - k = m + 1 := ⟨z + 7 - k, by omega⟩
  rw [hm, show z + 8 - (k + 1) = m by omega, List.set_cons_succ, List.replicate_succ', List.append_assoc, List.set_append_right _ _ (by rw [List.length_replicate]; exact Nat.le_refl _), List.length_replicate, Nat.sub_self]
  rfl

theorem pad_start (n z : Nat) : (bytesV (List.replicate (z + 9) 0)).set 0 (.int .u8 128) = bytesV (padTo n z 0) := by
  show (bytesV (List.replicate (z + 9) 0)).set 0 (.int .u8 (wv (bw 128))) = _
  unfold bytesV padTo lenB
  rw [← List.map_set, show z + 9 = (z + 8) + 1 by omega, List.replicate_succ, List.set_cons_zero, List.append_nil, Nat.sub_zero]
theorem len_byte (n k : Nat) : 8 * (n : Int) / 2 ^ (8 * k) % 256 = wv (bw (UInt8.ofNat (8 * n / 2 ^ (8 * k)))) := by
  rw [wv_bw, UInt8.toNat_ofNat']
  simp
/-- The bytes of a row, as a string. -/
theorem BRowAt.text {w : World} {b : Nat} {l : List UInt8} (h : BRowAt w b 5 l) (n c : Nat) (hn : l.length = n) : (convert 41 9 (.slice (some ⟨b, 0, none⟩) n c)).run Tryd.prog w = .ok (.string ⟨l.toArray⟩) w := by
  subst hn
  refine run_convert_bytes_back w 41 9 5 ⟨b, 0, none⟩ c l Tryd.underlying41 Tryd.underlying5 Tryd.underlying9 ?_
  intro j hj
  have := h.bytes j hj
  rw [wv_bw, List.getD, List.getElem?_eq_getElem hj] at this
  have hadd : (⟨b, 0, none⟩ : Addr).add j = ⟨b, j, none⟩ := by cases j <;> simp [Addr.add]
  rw [hadd]; exact this

theorem BRowAt.set {w : World} {b : Nat} {t : TypeId} {l : List UInt8} (h : BRowAt w b t l) (i : Nat) (x : UInt8) : BRowAt (w.setCell ⟨b, i, none⟩ (.int .u8 (wv (bw x)))) b t (l.set i x) := by
  unfold BRowAt
  rw [heap_setCell_same w b i _ t _ h]
  congr 2
  unfold bytesV
  rw [List.map_set, List.setIfInBounds_toArray]
theorem BRowAt.frozen {w : World} {b : Nat} {t : TypeId} {l : List UInt8} (h : BRowAt w b t l) (i : Nat) : w.frozen? ⟨b, i, none⟩ = false := frozen_of_row w b i _ t h
theorem BRowAt.some {w : World} {b : Nat} {t : TypeId} {l : List UInt8} (h : BRowAt w b t l) (i : Nat) (hi : i < l.length) : ∃ v, w.cell? ⟨b, i, none⟩ = some v := ⟨_, h.bytes i hi⟩

theorem info_u8 : (Tryd.prog.info? 5).map (fun i => (i.zero, i.size, i.bytes)) = some (some (.int .u8 0), 1, 1) := by kernel_rfl

set_option maxRecDepth 100000 in
set_option maxHeartbeats 1000000 in
theorem padding_any (n : Nat) (w : World) (hn : n < 1000000) :
    Calls Tryd.prog 43 #[.int .i64 n] w fun e w' => e = .returned (.string ⟨(Sha.padB n).toArray⟩) ∧ Below w.heap.size w w' := by
  obtain ⟨i0, hi, hz0, hz1, hz2⟩ := info_parts info_u8
  have hZ : (119 - (n : Int) % 64) % 64 = ((Sha.padZ n : Nat) : Int) := by unfold Sha.padZ; omega
  have hZ1 : Sha.padZ n < 64 := by unfold Sha.padZ; omega
  have hall := padTo_all n
  have HALL := Lib.hid hall
  clear hall
  generalize Sha.padZ n = z at *
  have hmk : ∀ W, (Instr.makeSlice 41 (.int .i64 (1 + (z : Int) + 8)) (.int .i64 (1 + (z : Int) + 8))).run Tryd.prog W = .ok (.slice (some ⟨W.heap.size, 0, none⟩) (z + 9) (z + 9)) (W.alloc (.cells (bytesV (List.replicate (z + 9) 0)).toArray 5)) := by
    intro W
    have := run_make (P := Tryd.prog) W 41 5 i0 (.int .u8 0) Tryd.underlying41 hi hz0 .i64 .i64 (1 + (z : Int) + 8) (1 + (z : Int) + 8) (by omega) (Int.le_refl _) (by rw [hz2]; omega) (by omega)
    rw [this, hz1, show (1 + (z : Int) + 8).toNat = z + 9 by omega, Nat.mul_one, made_bytes]
  go_enter Tryd.func43, Tryd.ntmps43
  go_wp2_with fail
  obtain ⟨W1, hW⟩ : ∃ W, W = w.alloc (.cells ((bytesV (List.replicate (z + 9) 0)).set 0 (.int .u8 128)).toArray 5) := ⟨_, rfl⟩
  rw [← hW]
  have hr : BRowAt W1 w.heap.size 5 (padTo n z 0) := by
    unfold BRowAt
    rw [hW, heap_alloc_new, pad_start]
  have hB : Below w.heap.size w W1 := by rw [hW]; exact (Below.refl _ w).alloc (Nat.le_refl _) _
  clear hW hmk hZ
  go_loopw [16] (fun i wr => ∃ k : Nat, k ≤ 8 ∧ i = .int .i64 k ∧ BRowAt wr w.heap.size 5 (padTo n z k) ∧ Below w.heap.size w wr) (fun i _ => 8 - (intOf i).toNat)
  case atStart => exact ⟨0, by omega, rfl, hr, hB⟩
  case round =>
    clear hr hB
    obtain ⟨k, hk, rfl, hr, hB⟩ := hrel
    by_cases hk8 : k < 8
    · skip
      have hf := hr.frozen (z + 8 - k)
      obtain ⟨ov, ho⟩ := hr.some (z + 8 - k) (by rw [padTo_length _ _ _ hk]; omega)
      have hr' := hr.set (z + 8 - k) (UInt8.ofNat (8 * n / 2 ^ (8 * k)))
      rw [padTo_set n z k hk8] at hr'
      have hB' := hB.setCell (p := ⟨w.heap.size, z + 8 - k, none⟩) (Nat.le_refl _) (.int .u8 (wv (bw (UInt8.ofNat (8 * n / 2 ^ (8 * k))))))
      have HX := Lib.hid (And.intro hr' hB')
      have hi1 : 0 ≤ (z : Int) + 8 - (k : Int) := by omega
      have hi2 : ((z : Int) + 8 - (k : Int)).toNat = z + 8 - k := by omega
      clear hr hr' hB hB'
      go_wp2_with fail
      go_roundw
      case rel =>
        rw [len_byte]
        exact ⟨k + 1, by omega, by go_num, HX.out.1, HX.out.2⟩
      case measure => simp [intOf]; omega
    · have hke : k = 8 := by omega
      have hd8 : decide ((k : Int) < 8) = false := by simp; omega
      rw [hke, HALL.out] at hr
      have hl : (Sha.padB n).length = z + 9 := by rw [← HALL.out, padTo_length _ _ _ (by omega)]
      have hcv := hr.text (z + 9) (z + 9) hl
      have HB := Lib.hid hB
      clear hk8 hk hke hr hl hB
      go_wp2_with fail
      go_ret
      exact ⟨rfl, HB.out⟩
end Go.Proofs.YtbaggjhjkignkaaDoor

