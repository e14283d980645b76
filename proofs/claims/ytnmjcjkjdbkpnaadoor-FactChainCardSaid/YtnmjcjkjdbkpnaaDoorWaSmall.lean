/-
  Contracts of layer 1's small functions (pick, fold, zigzag, unfold), and what Go's bit operations come to on natural numbers.
-/
import Derived.Test.YtnmjcjkjdbkpnaaDoorChecked
import Derived.Test.YtnmjcjkjdbkpnaaDoorWaEnc
import Derived.WalkKit
import Derived.OwnWalk
import Derived.Outline
import Derived.Lib.Hide
import Derived.Laws.Bits64
import Derived.Laws.Bits64b
import Derived.Laws.BitsLemmas
namespace Go.Proofs.YtnmjcjkjdbkpnaaDoor.Wa
open Go.RowKit

theorem ret_int {k : IntKind} {a b : Int} (h : a = b) : Ending.returned (.int k a) = .returned (.int k b) := by rw [h]

theorem u8_and127 (b : Nat) (h : b < 256) : bits .and .u8 (b : Int) 127 = ((b % 128 : Nat) : Int) := by
  have := bits_mask .u8 8 (by decide) wraps_u8 7 (by decide) (b : Int) (by omega) (by omega)
  rw [show ((2 : Int) ^ 7 - 1) = 127 by decide] at this
  rw [this]; omega
theorem u8_or128 : ∀ a : Fin 256, bits .or .u8 ((a.val : Nat) : Int) 128 = ((a.val % 128 + 128 : Nat) : Int) := by decide +kernel
theorem u8_or128_any (a : Int) (h0 : 0 ≤ a) (h1 : a < 256) : bits .or .u8 a 128 = a % 128 + 128 := by
  obtain ⟨n, rfl⟩ := Int.eq_ofNat_of_zero_le h0
  have := u8_or128 ⟨n, by omega⟩
  simp only at this
  rw [this]; omega
theorem u64_and1 (z : Nat) (h : z < 18446744073709551616) : bits .and .u64 (z : Int) 1 = ((z % 2 : Nat) : Int) := by
  have h := bits_and_u64_nat z 1 h (by omega)
  rw [Nat.and_one_is_mod] at h
  exact h
theorem wraps_u64' (n : Int) (h₀ : 0 ≤ n) (h₁ : n < 2 ^ 64) : IntKind.u64.wrap n = n := by rw [IntKind.wrap_u64]; omega
theorem wraps_u32' (n : Int) (h₀ : 0 ≤ n) (h₁ : n < 2 ^ 32) : IntKind.u32.wrap n = n := by rw [IntKind.wrap_u32]; omega
/-- 'y | x' where y lies below 2^i and x is a multiple of 2^i. -/
theorem u64_or_join (i : Nat) (y x : Nat) (hi : i < 64) (hy : y < 2 ^ i) (hx : x % 2 ^ i = 0) (hx1 : x < 18446744073709551616) : bits .or .u64 (y : Int) (x : Int) = ((y + x : Nat) : Int) := by
  have hp : 2 ^ i ≤ 2 ^ 63 := Nat.pow_le_pow_right (by omega) (by omega)
  have h2 : (2 : Nat) ^ 63 = 9223372036854775808 := by decide
  have e := (bits_nat .u64 64 (by decide) wraps_u64' y x (by omega) (by omega)).2
  have j := bits_join .u64 64 (by decide) wraps_u64' i (x : Int) (y : Int) (by omega) (by exact_mod_cast hx) (by omega) (by omega) (by exact_mod_cast hy) (by omega)
  have e' := (bits_nat .u64 64 (by decide) wraps_u64' x y (by omega) (by omega)).2
  rw [e'] at j
  rw [e, Nat.or_comm, j]
  omega
theorem u32_and15 (r : Nat) (h : r < 4294967296) : bits .and .u32 (r : Int) 15 = ((r % 16 : Nat) : Int) := by
  have := bits_mask .u32 32 (by decide) wraps_u32' 4 (by decide) (r : Int) (by omega) (by omega)
  rw [show ((2 : Int) ^ 4 - 1) = 15 by decide] at this
  rw [this]; omega
theorem u32_xor (a b : Nat) (ha : a < 4294967296) (hb : b < 4294967296) : bits .xor .u32 (a : Int) (b : Int) = ((a ^^^ b : Nat) : Int) := by
  have hx : a ^^^ b < 2 ^ 32 := Nat.xor_lt_two_pow (by omega) (by omega)
  have h1 : (BitVec.ofInt 32 (a : Int)).toNat = a := by
    rw [BitVec.ofInt_natCast, BitVec.toNat_ofNat]; exact Nat.mod_eq_of_lt (by omega)
  have h2 : (BitVec.ofInt 32 (b : Int)).toNat = b := by
    rw [BitVec.ofInt_natCast, BitVec.toNat_ofNat]; exact Nat.mod_eq_of_lt (by omega)
  show IntKind.u32.wrap ((BitVec.ofInt 32 (a : Int) ^^^ BitVec.ofInt 32 (b : Int)).toNat : Int) = _
  rw [BitVec.toNat_xor, h1, h2, IntKind.wrap_u32]
  omega
theorem u8_xor (a b : Nat) (ha : a < 256) (hb : b < 256) : bits .xor .u8 (a : Int) (b : Int) = ((a ^^^ b : Nat) : Int) := by
  have hx : a ^^^ b < 2 ^ 8 := Nat.xor_lt_two_pow (by omega) (by omega)
  have h1 : (BitVec.ofInt 8 (a : Int)).toNat = a := by
    rw [BitVec.ofInt_natCast, BitVec.toNat_ofNat]; exact Nat.mod_eq_of_lt (by omega)
  have h2 : (BitVec.ofInt 8 (b : Int)).toNat = b := by
    rw [BitVec.ofInt_natCast, BitVec.toNat_ofNat]; exact Nat.mod_eq_of_lt (by omega)
  show IntKind.u8.wrap ((BitVec.ofInt 8 (a : Int) ^^^ BitVec.ofInt 8 (b : Int)).toNat : Int) = _
  rw [BitVec.toNat_xor, h1, h2, IntKind.wrap_u8]
  omega
theorem i64_xor (a b : Nat) (ha : a < 4294967296) (hb : b < 4294967296) : bits .xor .i64 (a : Int) (b : Int) = ((a ^^^ b : Nat) : Int) := by
  have hx : a ^^^ b < 2 ^ 32 := Nat.xor_lt_two_pow (by omega) (by omega)
  have h1 : (BitVec.ofInt 64 (a : Int)).toNat = a := by
    rw [BitVec.ofInt_natCast, BitVec.toNat_ofNat]; exact Nat.mod_eq_of_lt (by omega)
  have h2 : (BitVec.ofInt 64 (b : Int)).toNat = b := by
    rw [BitVec.ofInt_natCast, BitVec.toNat_ofNat]; exact Nat.mod_eq_of_lt (by omega)
  show IntKind.i64.wrap ((BitVec.ofInt 64 (a : Int) ^^^ BitVec.ofInt 64 (b : Int)).toNat : Int) = _
  rw [BitVec.toNat_xor, h1, h2, IntKind.wrap_i64]
  omega

/-- A Go string of these bytes. -/
def bstr (l : List UInt8) : Value := .string ⟨l.toArray⟩

/-! ### pick and the encodings of integers -/

def pickS (c n : Int) : Int := (if c < 0 then -(c + 1) else c) % n
theorem pickS_bd (c n : Int) (h : 1 ≤ n) : 0 ≤ pickS c n ∧ pickS c n < n := by
  unfold pickS
  exact ⟨Int.emod_nonneg _ (by omega), Int.emod_lt_of_pos _ (by omega)⟩

theorem zig_neg {n : Int} (h : n < 0) : ((Enc.zig n : Nat) : Int) = -2 * n - 1 := by unfold Enc.zig; rw [if_pos h]; omega
theorem zig_pos {n : Int} (h : ¬ n < 0) : ((Enc.zig n : Nat) : Int) = 2 * n := by unfold Enc.zig; rw [if_neg h]; omega

theorem fold_any (n : Int) (w : World) (h1 : -4611686018427387903 ≤ n) (h2 : n ≤ 4611686018427387903) :
    Calls Tryd.prog 60 #[.int .i64 n] w fun e w' => e = .returned (.int .u64 ((Enc.zig n : Nat) : Int)) ∧ w = w' := by
  by_cases h : n < 0
  · go_enter Tryd.func60, Tryd.ntmps60
    go_wp2
    go_ret
    exact ⟨ret_int (zig_neg h).symm, rfl⟩
  · have hz := zig_pos h
    have Hz := Lib.hid hz; clear hz
    go_enter Tryd.func60, Tryd.ntmps60
    go_wp2
    go_ret
    exact ⟨ret_int Hz.out.symm, rfl⟩

theorem zigzag_any (n : Int) (w : World) (h1 : -4611686018427387903 ≤ n) (h2 : n ≤ 4611686018427387903) :
    Calls Tryd.prog 47 #[.int .i64 n] w fun e w' => e = .returned (.int .u64 ((Enc.zig n : Nat) : Int)) ∧ w = w' := by
  by_cases h : n < 0
  · have hz := zig_neg h
    have Hz := Lib.hid hz; clear hz
    go_enter Tryd.func47, Tryd.ntmps47
    go_wp2
    go_ret
    exact ⟨ret_int (show (-n * 2 - 1 : Int) = _ by rw [Hz.out]; omega), rfl⟩
  · have hz := zig_pos h
    have Hz := Lib.hid hz; clear hz
    go_enter Tryd.func47, Tryd.ntmps47
    go_wp2
    go_ret
    exact ⟨ret_int (show (n * 2 : Int) = _ by rw [Hz.out]; omega), rfl⟩

theorem unfold_any (z : Nat) (w : World) (h2 : z ≤ 9223372036854775807) :
    Calls Tryd.prog 67 #[.int .u64 z] w fun e w' => e = .returned (.int .i64 (Enc.unzig z)) ∧ w = w' := by
  have hb := u64_and1 z (by omega)
  by_cases h : z % 2 = 1
  · have hu : Enc.unzig z = -((z : Int) / 2) - 1 := by unfold Enc.unzig; rw [if_pos h]; omega
    rw [h] at hb
    have Hu := Lib.hid hu; clear hu h
    go_enter Tryd.func67, Tryd.ntmps67
    go_wp2
    go_ret
    exact ⟨ret_int Hu.out.symm, rfl⟩
  · have hu : Enc.unzig z = (z : Int) / 2 := by unfold Enc.unzig; rw [if_neg h]; omega
    rw [show z % 2 = 0 by omega] at hb
    have Hu := Lib.hid hu; clear hu h
    go_enter Tryd.func67, Tryd.ntmps67
    go_wp2
    go_ret
    exact ⟨ret_int Hu.out.symm, rfl⟩
end Go.Proofs.YtnmjcjkjdbkpnaaDoor.Wa

