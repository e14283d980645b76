/-
  Words of 32 bits as values of uint32, and what Go's operations on them come to, with no condition.
-/
import Derived.Test.YtbaggjhjkignkaaDoorSha
import Derived.WalkKit
import Derived.OwnWalk
import Derived.Outline
import Derived.Lib.Hide
import Derived.Laws.Bits64
namespace Go.Proofs.YtbaggjhjkignkaaDoor
open Go.RowKit

/-- A word's number. -/
def wv (x : Wd) : Int := (x.toNat : Int)
theorem wv_nonneg (x : Wd) : 0 ≤ wv x := by unfold wv; omega
theorem wv_lt (x : Wd) : wv x < 4294967296 := by have := x.isLt; unfold wv; omega
theorem wv_ofInt (x : Wd) : BitVec.ofInt 32 (wv x) = x := by
  unfold wv; rw [BitVec.ofInt_natCast, BitVec.ofNat_toNat, BitVec.setWidth_eq]
theorem wrap_toNat (x : Wd) : IntKind.u32.wrap (x.toNat : Int) = wv x := by
  have := x.isLt
  rw [IntKind.wrap_u32]; unfold wv; omega
theorem wv_xor (x y : Wd) : bits .xor .u32 (wv x) (wv y) = wv (x ^^^ y) := by
  show IntKind.u32.wrap ((BitVec.ofInt 32 (wv x) ^^^ BitVec.ofInt 32 (wv y)).toNat : Int) = _
  rw [wv_ofInt, wv_ofInt, wrap_toNat]
theorem wv_and (x y : Wd) : bits .and .u32 (wv x) (wv y) = wv (x &&& y) := by
  show IntKind.u32.wrap ((BitVec.ofInt 32 (wv x) &&& BitVec.ofInt 32 (wv y)).toNat : Int) = _
  rw [wv_ofInt, wv_ofInt, wrap_toNat]
theorem wv_or (x y : Wd) : bits .or .u32 (wv x) (wv y) = wv (x ||| y) := by
  show IntKind.u32.wrap ((BitVec.ofInt 32 (wv x) ||| BitVec.ofInt 32 (wv y)).toNat : Int) = _
  rw [wv_ofInt, wv_ofInt, wrap_toNat]
theorem wv_not (x : Wd) : bits .xor .u32 IntKind.u32.max (wv x) = wv (~~~x) := by
  show IntKind.u32.wrap ((BitVec.ofInt 32 IntKind.u32.max ^^^ BitVec.ofInt 32 (wv x)).toNat : Int) = _
  have : BitVec.ofInt 32 IntKind.u32.max = BitVec.allOnes 32 := by decide
  rw [wv_ofInt, wrap_toNat, this, BitVec.allOnes_xor]
theorem wv_add (x y : Wd) : (wv x + wv y) % 4294967296 = wv (x + y) := by
  unfold wv; rw [BitVec.toNat_add]; omega
theorem wv_add' (x y : Wd) : IntKind.u32.wrap (wv x + wv y) = wv (x + y) := by
  rw [IntKind.wrap_u32]; exact wv_add x y
theorem wv_shr (x : Wd) (n : Nat) : wv x / ((2 ^ n : Nat) : Int) = wv (x >>> n) := by
  unfold wv
  rw [BitVec.toNat_ushiftRight, Nat.shiftRight_eq_div_pow]; exact (Int.natCast_ediv _ _).symm
theorem wv_shl (x : Wd) (n : Nat) : (wv x * ((2 ^ n : Nat) : Int)) % 4294967296 = wv (x <<< n) := by
  unfold wv
  rw [BitVec.toNat_shiftLeft, Nat.shiftLeft_eq]
  exact (Int.natCast_emod _ _).symm
theorem wv_ofNat (n : Nat) (h : n < 4294967296) : ((n : Nat) : Int) = wv (BitVec.ofNat 32 n) := by
  unfold wv; rw [BitVec.toNat_ofNat, Nat.mod_eq_of_lt (by omega)]
theorem wv_shr' (x : Wd) (n : Nat) : wv x / (2 : Int) ^ n = wv (x >>> n) := by
  rw [← wv_shr]; simp
theorem wv_shl' (x : Wd) (n : Nat) : (wv x * (2 : Int) ^ n) % 4294967296 = wv (x <<< n) := by
  rw [← wv_shl]; simp
theorem wv_wrap (x : Wd) : IntKind.u32.wrap (wv x) = wv x := by
  have := wv_nonneg x; have := wv_lt x
  rw [IntKind.wrap_u32]; omega
theorem wv_shlk (x : Wd) (n : Nat) (k : Int) (h : k = ((2 ^ n : Nat) : Int)) : IntKind.u32.wrap (wv x * k) = wv (x <<< n) := by
  rw [h, IntKind.wrap_u32]; exact wv_shl x n
theorem wv_shrk (x : Wd) (n : Nat) (k : Int) (h : k = ((2 ^ n : Nat) : Int)) : wv x / k = wv (x >>> n) := by
  rw [h]; exact wv_shr x n
theorem wv_bw (b : UInt8) : wv (bw b) = ((b.toNat : Nat) : Int) := by
  have := b.toNat_lt
  unfold bw; rw [← wv_ofNat _ (by omega)]
theorem wv_bw_lt (b : UInt8) : wv (bw b) < 256 := by
  have := b.toNat_lt
  rw [wv_bw]; omega
/-- Words as values. -/
def wordsV (l : List Wd) : List Value := l.map fun x => Value.int .u32 (wv x)
/-- Bytes as values. -/
def bytesV (l : List UInt8) : List Value := l.map fun b => Value.int .u8 (wv (bw b))
theorem wordsV_at (l : List Wd) (i : Nat) (h : i < l.length) : (wordsV l)[i]? = some (.int .u32 (wv (l.getD i 0))) := by
  unfold wordsV; rw [List.getElem?_map, List.getD, List.getElem?_eq_getElem h]; rfl
theorem bytesV_at (l : List UInt8) (i : Nat) (h : i < l.length) : (bytesV l)[i]? = some (.int .u8 (wv (bw (l.getD i 0)))) := by
  unfold bytesV; rw [List.getElem?_map, List.getD, List.getElem?_eq_getElem h]; rfl
theorem wordsV_one (l : List Wd) : (wordsV l).toArray.all (·.oneCell') = true := by
  unfold wordsV; rw [List.all_toArray, List.all_map, List.all_eq_true]; intro x _; rfl
theorem bytesV_one (l : List UInt8) : (bytesV l).toArray.all (·.oneCell') = true := by
  unfold bytesV; rw [List.all_toArray, List.all_map, List.all_eq_true]; intro x _; rfl
theorem wordsV_length (l : List Wd) : (wordsV l).length = l.length := by unfold wordsV; exact List.length_map _
theorem bytesV_length (l : List UInt8) : (bytesV l).length = l.length := by unfold bytesV; exact List.length_map _
end Go.Proofs.YtbaggjhjkignkaaDoor

