/-
  The contract of wire.Sum, for every string. Condition: the table of 16 numbers reads as the program's text lays it.
-/
import Derived.Test.YtfiigjkcmnlddaaDoorSmall
import Derived.Test.YtfiigjkcmnlddaaDoorCrc
import Derived.LoopTactic
namespace Go.Proofs.YtfiigjkcmnlddaaDoor
open Go.RowKit

/-- The table, as the program's text lays it, in block 0. -/
def Tab (w : World) : Prop := 0 < w.heap.size ∧ ∀ i, i < 16 → w.cell? ⟨0, i, none⟩ = some (.int .u32 ((Crc.tab.getD i 0 : Nat) : Int))
theorem Tab.below {w w' : World} (h : Tab w) (hb : Below w.heap.size w w') : Tab w' :=
  ⟨Nat.lt_of_lt_of_le h.1 hb.size, fun i hi => (hb.cell (p := ⟨0, i, none⟩) h.1).trans (h.2 i hi)⟩

theorem take_snoc (s : ByteArray) (k : Nat) (h : k < s.size) : s.data.toList.take (k + 1) = s.data.toList.take k ++ [s[k]] := by
  rw [List.take_succ_eq_append_getElem (by simpa using h)]; rfl

/-- The register behind the first k bytes. -/
def regTo (s : ByteArray) (k : Nat) : Nat := (Crc.reg 0xFFFFFFFF#32 (s.data.toList.take k)).toNat
theorem regTo_lt (s : ByteArray) (k : Nat) : regTo s k < 4294967296 := (Crc.reg 0xFFFFFFFF#32 (s.data.toList.take k)).isLt
theorem regTo_zero (s : ByteArray) : regTo s 0 = 4294967295 := rfl
theorem regTo_succ (s : ByteArray) (k : Nat) (h : k < s.size) : regTo s (k + 1) = (Crc.byteStep (Crc.reg 0xFFFFFFFF#32 (s.data.toList.take k)) s[k]).toNat := by
  unfold regTo; rw [take_snoc s k h, Crc.reg_snoc]
theorem regTo_all (s : ByteArray) : Crc.sum s.data.toList = 4294967295 - regTo s s.size := by
  rw [Crc.sum_of]; unfold regTo; rw [List.take_of_length_le (by simp)]

theorem u32_not (r : Nat) (h : r < 4294967296) : bits .xor .u32 IntKind.u32.max (r : Int) = ((4294967295 - r : Nat) : Int) := by
  have e := u32_xor 4294967295 r (by omega) h
  have hm : IntKind.u32.max = ((4294967295 : Nat) : Int) := rfl
  rw [hm, e]
  have h1 : (BitVec.allOnes 32 ^^^ BitVec.ofNat 32 r).toNat = 4294967295 ^^^ r := by
    rw [BitVec.toNat_xor, BitVec.toNat_ofNat, Nat.mod_eq_of_lt (by omega)]; rfl
  have h2 : BitVec.allOnes 32 ^^^ BitVec.ofNat 32 r = ~~~ (BitVec.ofNat 32 r) := by
    apply BitVec.eq_of_getLsbD_eq
    intro i hi
    rw [BitVec.getLsbD_xor, BitVec.getLsbD_not, BitVec.getLsbD_allOnes]
    simp only [hi, decide_true, Bool.true_xor, Bool.true_and]
  rw [← h1, h2, BitVec.toNat_not, BitVec.toNat_ofNat, Nat.mod_eq_of_lt (by omega)]

set_option maxRecDepth 100000 in
set_option maxHeartbeats 400000 in
theorem sum_any (s : ByteArray) (w : World) (hs : s.size ≤ maxLen) (ht : Tab w) :
    Calls Tryd.prog 21 #[.string s] w fun e w' => e = .returned (.int .i64 ((Crc.sum s.data.toList : Nat) : Int)) ∧ w = w' := by
  unfold maxLen at hs
  go_enter Tryd.func21, Tryd.ntmps21
  go_wp2
  go_loop [3, 4] (fun r i => ∃ k : Nat, k ≤ s.size ∧ i = .int .i64 k ∧ r = .int .u32 ((regTo s k : Nat) : Int)) (fun _ i => s.size - (intOf i).toNat)
  case atStart => exact ⟨0, Nat.zero_le _, rfl, rfl⟩
  case round =>
    obtain ⟨k, hk, rfl, rfl⟩ := hrel
    by_cases hlt : k < s.size
    · have hr := regTo_lt s k
      have hb : s[k].toNat < 256 := s[k].toNat_lt
      have hn := regTo_succ s k hlt
      obtain ⟨r, er⟩ : ∃ r, r = regTo s k := ⟨_, rfl⟩
      rw [← er] at hr ⊢
      obtain ⟨x, ex⟩ : ∃ x, x = r ^^^ s[k].toNat := ⟨_, rfl⟩
      have hx : x < 4294967296 := by rw [ex]; exact Nat.xor_lt_two_pow (n := 32) hr (by omega)
      obtain ⟨m, em⟩ : ∃ m, m = x % 16 := ⟨_, rfl⟩
      obtain ⟨t, et⟩ : ∃ t, t = Crc.tab.getD m 0 := ⟨_, rfl⟩
      obtain ⟨y, ey⟩ : ∃ y, y = x / 16 ^^^ t := ⟨_, rfl⟩
      have hm : m < 16 := by omega
      have htl : t < 4294967296 := by rw [et]; exact Crc.tab_lt ⟨m, hm⟩
      have hy : y < 4294967296 := by rw [ey, et, em]; exact Crc.half_lt x hx
      obtain ⟨m2, em2⟩ : ∃ m2, m2 = y % 16 := ⟨_, rfl⟩
      obtain ⟨t2, et2⟩ : ∃ t2, t2 = Crc.tab.getD m2 0 := ⟨_, rfl⟩
      obtain ⟨z, ez⟩ : ∃ z, z = y / 16 ^^^ t2 := ⟨_, rfl⟩
      have hm2 : m2 < 16 := by omega
      have htl2 : t2 < 4294967296 := by rw [et2]; exact Crc.tab_lt ⟨m2, hm2⟩
      have hz : z = regTo s (k + 1) := by
        rw [hn, ez, et2, em2]
        exact Crc.two_halves _ s[k] x y (by rw [ex, er]; rfl) (by rw [ey, et, em])
      have f1 : bits BinOp.xor IntKind.u32 (r : Int) (s[k].toNat : Int) = (x : Int) := by rw [u32_xor r _ hr (by omega), ex]
      have f2 : bits BinOp.and IntKind.u32 (x : Int) 15 = (m : Int) := by rw [u32_and15 x hx, em]
      have f3 : bits BinOp.xor IntKind.u32 ((x : Int) / 16) (t : Int) = (y : Int) := by
        have e := u32_xor (x / 16) t (by omega) htl
        rw [ey, ← e]; congr 1
      have f4 : bits BinOp.and IntKind.u32 (y : Int) 15 = (m2 : Int) := by rw [u32_and15 y hy, em2]
      have f5 : bits BinOp.xor IntKind.u32 ((y : Int) / 16) (t2 : Int) = (z : Int) := by
        have e := u32_xor (y / 16) t2 (by omega) htl2
        rw [ez, ← e]; congr 1
      have c1 : w.cell? ⟨0, m, none⟩ = some (.int .u32 (t : Int)) := by rw [et]; exact ht.2 m hm
      have c2 : w.cell? ⟨0, m2, none⟩ = some (.int .u32 (t2 : Int)) := by rw [et2]; exact ht.2 m2 hm2
      have HZ := Lib.hid hz
      have HT := Lib.hid ht
      clear hz hn er ex em et ey em2 et2 ez ht
      go_wp2
      go_round
      case rel => exact ⟨k + 1, by omega, by go_num, by rw [HZ.out]⟩
      case measure => simp [intOf]; omega
    · have he : k = s.size := by omega
      subst he
      have hr := regTo_lt s s.size
      have hv := regTo_all s
      have HV := Lib.hid hv; clear hv
      have hn := u32_not _ hr
      have HN := Lib.hid hn; clear hn
      go_wp2
      go_ret
      refine ⟨ret_int ?_, rfl⟩
      show wrap64 (bits BinOp.xor IntKind.u32 IntKind.u32.max _) = _
      rw [HN.out, HV.out]
      exact IntWalk.wrap64_in _ ⟨by omega, by omega⟩
end Go.Proofs.YtfiigjkcmnlddaaDoor
