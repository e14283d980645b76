/-
  The plain arithmetic of layer 1's encodings: the bytes of an integer, their decoder, and that each determines the other. No program is imported; there are no conditions.
  Contracts of layer 1's small functions (pick, fold, zigzag, unfold), and what Go's bit operations come to on natural numbers.
  The contracts of wire.groups, of the iterator that it returns, and of wire.PutInt.
  The contract of wire.PutInt, for every integer.
  The contract of wire.join: the number whose groups begin at an offset, the offset after them, and whether they are an encoding's. Condition: the offset is one into the string.
  The contract of wire.Int, for every string and offset.
-/
import Derived.Test.YtihohjgjklcnlaaDoorChecked
import Derived.WalkKit
import Derived.OwnWalk
import Derived.Outline
import Derived.Lib.Hide
import Derived.Laws.Bits64
import Derived.Laws.Bits64b
import Derived.Laws.BitsLemmas
import Derived.RangeFuncBox
import Derived.RangeFuncNested
import Derived.RangeFuncBound
import Derived.RangeFuncCalls
import Derived.RangeFuncLeaves
import Derived.Shelf.Abstract
import Derived.Shelf.RegionOpen
import Derived.OwnWalkIn
import Derived.TacticsInMore
import Derived.LoopNIn
import Derived.LoopIn
import Derived.Maps.AppendAt
import Derived.Laws.IdiomStrings
import Derived.LoopTactic
namespace Go.Proofs.YtihohjgjklcnlaaDoor.Wa.Enc

/-- The groups of z as bytes, the least significant first; k + 1 groups are enough for z < 128 ^ (k + 1). -/
def encF : Nat → Nat → List UInt8
  | 0, z => [UInt8.ofNat z]
  | k + 1, z => if z < 128 then [UInt8.ofNat z] else UInt8.ofNat (z % 128 + 128) :: encF k (z / 128)
/-- The encoding of the number z < 2 ^ 63. -/
def enc (z : Nat) : List UInt8 := encF 8 z

/-- The number whose groups begin the list, how many they are, and the last of them; at most k groups. -/
def dec : Nat → List UInt8 → Option (Nat × Nat × UInt8)
  | 0, _ => none
  | _ + 1, [] => none
  | k + 1, b :: r => if b.toNat < 128 then some (b.toNat, 1, b) else (dec k r).map fun x => (b.toNat % 128 + 128 * x.1, x.2.1 + 1, x.2.2)

/-- What is an integer's encoding. -/
def decOK (l : List UInt8) : Option (Nat × Nat) :=
  match dec 9 l with
  | some (z, m, b) => if (b ≠ 0 ∨ m = 1) ∧ z ≤ 9223372036854775806 then some (z, m) else none
  | none => none

def zig (n : Int) : Nat := if n < 0 then (-2 * n - 1).toNat else (2 * n).toNat
def unzig (z : Nat) : Int := if z % 2 = 1 then -((z / 2 : Nat) : Int) - 1 else ((z / 2 : Nat) : Int)

theorem zig_unzig (z : Nat) : zig (unzig z) = z := by
  unfold zig unzig; split <;> split <;> omega
theorem unzig_zig (n : Int) : unzig (zig n) = n := by
  unfold zig unzig; split <;> split <;> omega
theorem zig_le {n : Int} (h1 : -4611686018427387903 ≤ n) (h2 : n ≤ 4611686018427387903) : zig n ≤ 9223372036854775806 := by
  unfold zig; split <;> omega
theorem unzig_range {z : Nat} (h : z ≤ 9223372036854775806) : -4611686018427387903 ≤ unzig z ∧ unzig z ≤ 4611686018427387903 := by
  unfold unzig; split <;> omega
theorem zig_gt {n : Int} (h : n < -4611686018427387903 ∨ 4611686018427387903 < n) : 9223372036854775806 < zig n := by
  unfold zig; split <;> omega

theorem toNat_small {z : Nat} (h : z < 256) : (UInt8.ofNat z).toNat = z := by
  simp [UInt8.toNat_ofNat']; omega

theorem encF_pos (k z : Nat) : 0 < (encF k z).length := by
  cases k <;> simp [encF]; split <;> simp
theorem encF_le (k : Nat) : ∀ z, (encF k z).length ≤ k + 1 := by
  induction k with
  | zero => intro z; simp [encF]
  | succ k ih => intro z; simp only [encF]; split <;> simp; exact ih _
theorem enc_pos (z : Nat) : 0 < (enc z).length := encF_pos 8 z
theorem enc_le (z : Nat) : (enc z).length ≤ 9 := encF_le 8 z

/-- The groups of z are decoded into z, whatever follows; the last one is not zero, or it is the only one. -/
theorem dec_encF (k : Nat) : ∀ z r, z < 128 ^ (k + 1) → ∃ b, dec (k + 1) (encF k z ++ r) = some (z, (encF k z).length, b) ∧ (b ≠ 0 ∨ (encF k z).length = 1) ∧ (b = 0 → z = 0) := by
  induction k with
  | zero =>
    intro z r hz
    have hz' : z < 128 := by simpa using hz
    refine ⟨UInt8.ofNat z, ?_, by simp [encF], ?_⟩
    · simp [encF, dec, toNat_small (show z < 256 by omega)]; omega
    · intro h
      have := congrArg UInt8.toNat h
      rw [toNat_small (by omega)] at this
      simpa using this
  | succ k ih =>
    intro z r hz
    by_cases h : z < 128
    · refine ⟨UInt8.ofNat z, ?_, by simp [encF, h], ?_⟩
      · simp [encF, h, dec, toNat_small (show z < 256 by omega)]
      · intro e
        have := congrArg UInt8.toNat e
        rw [toNat_small (by omega)] at this
        simpa using this
    · have hq : z / 128 < 128 ^ (k + 1) := by
        rw [Nat.pow_succ] at hz
        exact Nat.div_lt_of_lt_mul (by rw [Nat.mul_comm]; exact hz)
      obtain ⟨b, e, hb, hb0⟩ := ih (z / 128) r hq
      refine ⟨b, ?_, ?_, ?_⟩
      · have hn : (UInt8.ofNat (z % 128 + 128)).toNat = z % 128 + 128 := toNat_small (by omega)
        simp only [encF, if_neg h, List.cons_append, dec, hn, e, Option.map_some]
        rw [if_neg (by omega)]
        simp; omega
      · left
        intro h0
        have := hb0 h0
        omega
      · intro h0
        have := hb0 h0
        omega

/-- What is decoded was encoded: m groups, of which the last one is not zero, are the encoding of their number. -/
theorem encF_dec (k : Nat) : ∀ l z m b, dec (k + 1) l = some (z, m, b) → (b ≠ 0 ∨ m = 1) → z < 128 ^ (k + 1) ∧ 1 ≤ m ∧ (∃ r, l = encF k z ++ r) ∧ m = (encF k z).length ∧ (2 ≤ m → 128 ≤ z) ∧ (m = 1 → z = b.toNat) := by
  induction k with
  | zero =>
    intro l z m b h _
    match l with
    | [] => simp [dec] at h
    | c :: r =>
      simp only [dec] at h
      split at h
      · rename_i hc
        simp at h; obtain ⟨rfl, rfl, rfl⟩ := h
        refine ⟨by simpa using hc, Nat.le_refl _, ⟨r, by simp [encF]⟩, by simp [encF], by omega, fun _ => rfl⟩
      · simp at h
  | succ k ih =>
    intro l z m b h hb
    match l with
    | [] => simp [dec] at h
    | c :: r =>
      rw [dec] at h
      split at h
      · rename_i hc
        simp at h; obtain ⟨rfl, rfl, rfl⟩ := h
        have hp : 128 ≤ 128 ^ (k + 1 + 1) := by
          rw [Nat.pow_succ]
          have : 0 < 128 ^ (k + 1) := Nat.pow_pos (by omega)
          omega
        refine ⟨by omega, Nat.le_refl _, ⟨r, by simp [encF, hc]⟩, by simp [encF, hc], by omega, fun _ => rfl⟩
      · rename_i hc
        cases hd : dec (k + 1) r with
        | none => rw [hd] at h; simp at h
        | some x =>
          obtain ⟨v, n, b'⟩ := x
          rw [hd] at h
          simp at h
          obtain ⟨rfl, rfl, rfl⟩ := h
          have hb' : b' ≠ 0 ∨ n = 1 := by
            rcases hb with hb | hb
            · exact .inl hb
            · have := (dec_len (k + 1) r v n b' hd)
              omega
          obtain ⟨h1, h2, ⟨r', h3⟩, h4, h5, h6⟩ := ih r v n b' hd hb'
          have hv : 1 ≤ v := by
            by_cases hn : n = 1
            · rw [h6 hn]
              have hbn : b' ≠ 0 := by
                rcases hb with hb | hb
                · exact hb
                · omega
              have : b'.toNat ≠ 0 := fun e => hbn (UInt8.toNat_inj.1 (by simpa using e))
              omega
            · have := h5 (by omega); omega
          have hc8 : c.toNat < 256 := c.toNat_lt
          have hz : ¬ (c.toNat % 128 + 128 * v < 128) := by omega
          have hdiv : (c.toNat % 128 + 128 * v) / 128 = v := by omega
          have hmod : (c.toNat % 128 + 128 * v) % 128 + 128 = c.toNat := by omega
          have hcc : UInt8.ofNat c.toNat = c := by simp
          refine ⟨by rw [Nat.pow_succ]; omega, by omega, ⟨r', ?_⟩, ?_, fun _ => by omega, fun e => by omega⟩
          · simp only [encF, if_neg hz, hdiv, hmod, hcc, List.cons_append]; rw [← h3]
          · simp only [encF, if_neg hz, hdiv, hmod, hcc, List.length_cons]; omega
where
  dec_len (k : Nat) : ∀ (l : List UInt8) (z m : Nat) (b : UInt8), dec k l = some (z, m, b) → 1 ≤ m := by
    cases k with
    | zero => intro l z m b h; simp [dec] at h
    | succ k =>
      intro l z m b h
      match l with
      | [] => simp [dec] at h
      | c :: r =>
        rw [dec] at h
        split at h
        · simp at h; omega
        · cases hd : dec k r with
          | none => rw [hd] at h; simp at h
          | some x => rw [hd] at h; simp at h; omega

theorem pow9 : 128 ^ (8 + 1) = 9223372036854775808 := by decide

theorem decOK_enc {z : Nat} (h : z ≤ 9223372036854775806) (r : List UInt8) : decOK (enc z ++ r) = some (z, (enc z).length) := by
  obtain ⟨b, e, hb, _⟩ := dec_encF 8 z r (by rw [pow9]; omega)
  unfold decOK enc
  rw [e]
  simp only
  rw [if_pos ⟨hb, h⟩]

theorem enc_decOK {l : List UInt8} {z m : Nat} (h : decOK l = some (z, m)) : z ≤ 9223372036854775806 ∧ m = (enc z).length ∧ ∃ r, l = enc z ++ r := by
  unfold decOK at h
  split at h
  · rename_i z' m' b e
    split at h
    · rename_i hc
      simp at h; obtain ⟨rfl, rfl⟩ := h
      obtain ⟨_, _, h3, h4, _, _⟩ := encF_dec 8 l _ _ _ e hc.1
      exact ⟨hc.2, h4, h3⟩
    · simp at h
  · simp at h

/-- No proper beginning of an encoding is one. -/
theorem decOK_short {z : Nat} (h : z ≤ 9223372036854775806) {j : Nat} (hj : j < (enc z).length) : decOK ((enc z).take j) = none := by
  cases e : decOK ((enc z).take j) with
  | none => rfl
  | some x =>
    obtain ⟨z', m'⟩ := x
    obtain ⟨hz, hm, r, hr⟩ := enc_decOK e
    have h1 := decOK_enc h []
    have h2 : enc z ++ [] = enc z' ++ (r ++ (enc z).drop j) := by
      rw [← List.append_assoc, ← hr, List.take_append_drop, List.append_nil]
    rw [h2, decOK_enc hz] at h1
    simp at h1
    obtain ⟨rfl, _⟩ := h1
    have := congrArg List.length hr
    simp at this
    omega
theorem decOK_nil : decOK [] = none := rfl

/-- An encoding begins another one only if they are the same. -/
theorem enc_prefix {z z' : Nat} (h : z ≤ 9223372036854775806) (h' : z' ≤ 9223372036854775806) (hp : enc z <+: enc z') : z = z' := by
  obtain ⟨r, hr⟩ := hp
  have h1 := decOK_enc h' []
  rw [List.append_nil, ← hr, decOK_enc h] at h1
  simp at h1
  exact h1.1

/-! ### Int and String, as the chapter says them: value, next offset, error -/

def putErr (n : Int) : Int := if n < -4611686018427387903 ∨ 4611686018427387903 < n then 10 else 0
def putBytes (n : Int) : List UInt8 := if n < -4611686018427387903 ∨ 4611686018427387903 < n then [] else enc (zig n)

def intV (l : List UInt8) (at' : Int) : Int × Int × Int :=
  if at' < 0 ∨ (l.length : Int) < at' then (0, 0, 2) else
  match decOK (l.drop at'.toNat) with
  | some (z, m) => (unzig z, at' + m, 0)
  | none => (0, 0, 10)

def pstrErr (l : List UInt8) : Int := if 65536 < l.length then 10 else 0
def pstrBytes (l : List UInt8) : List UInt8 := if 65536 < l.length then [] else enc (zig l.length) ++ l

def strV (l : List UInt8) (at' : Int) : List UInt8 × Int × Int :=
  match intV l at' with
  | (n, start, e) =>
    if e ≠ 0 then ([], 0, e) else
    if n < 0 ∨ 65536 < n ∨ (l.length : Int) - start < n then ([], 0, 10) else
    ((l.drop start.toNat).take n.toNat, start + n, 0)

theorem putErr_in {n : Int} (h1 : -4611686018427387903 ≤ n) (h2 : n ≤ 4611686018427387903) : putErr n = 0 := by unfold putErr; rw [if_neg (by omega)]
theorem putBytes_in {n : Int} (h1 : -4611686018427387903 ≤ n) (h2 : n ≤ 4611686018427387903) : putBytes n = enc (zig n) := by unfold putBytes; rw [if_neg (by omega)]

/-- The encoding of an integer is read wherever it stands. -/
theorem intV_put {n : Int} (h1 : -4611686018427387903 ≤ n) (h2 : n ≤ 4611686018427387903) (p r : List UInt8) :
    intV (p ++ (enc (zig n) ++ r)) p.length = (n, (p.length : Int) + (enc (zig n)).length, 0) := by
  unfold intV
  rw [if_neg (by simp; omega)]
  simp only [Int.toNat_natCast, List.drop_left, decOK_enc (zig_le h1 h2), unzig_zig]

theorem zig_nat (n : Nat) : zig (n : Int) = 2 * n := by unfold zig; split <;> omega

theorem strV_put {t : List UInt8} (h : t.length ≤ 65536) (p r : List UInt8) :
    strV (p ++ ((enc (zig t.length) ++ t) ++ r)) p.length = (t, (p.length : Int) + (enc (zig t.length) ++ t).length, 0) := by
  unfold strV
  rw [show p ++ ((enc (zig t.length) ++ t) ++ r) = p ++ (enc (zig t.length) ++ (t ++ r)) by simp, intV_put (by omega) (by omega)]
  simp only
  rw [if_neg (by simp), if_neg (by simp; omega)]
  have e : ((p.length : Int) + (enc (zig t.length)).length).toNat = p.length + (enc (zig t.length)).length := by omega
  rw [e, show p ++ (enc (zig t.length) ++ (t ++ r)) = (p ++ enc (zig t.length)) ++ (t ++ r) by simp, show p.length + (enc (zig t.length)).length = (p ++ enc (zig t.length)).length by simp, List.drop_left]
  simp; omega

/-- What Int accepts is what PutInt gives. -/
theorem intV_ok {l : List UInt8} {k n next : Int} (h : intV l k = (n, next, 0)) :
    0 ≤ k ∧ k ≤ l.length ∧ -4611686018427387903 ≤ n ∧ n ≤ 4611686018427387903 ∧ k ≤ next ∧ next ≤ l.length ∧ next = k + (enc (zig n)).length ∧ ∃ r, l.drop k.toNat = enc (zig n) ++ r := by
  unfold intV at h
  split at h
  · simp at h
  · rename_i hk
    split at h
    · rename_i z m e
      simp at h
      obtain ⟨rfl, rfl⟩ := h
      obtain ⟨hz, hm, r, hr⟩ := enc_decOK e
      obtain ⟨g1, g2⟩ := unzig_range hz
      rw [zig_unzig]
      have hl := congrArg List.length hr
      simp at hl
      exact ⟨by omega, by omega, g1, g2, by omega, by omega, by omega, r, hr⟩
    · simp at h

theorem intV_no {l : List UInt8} {k n next e : Int} (h : intV l k = (n, next, e)) (he : e ≠ 0) (h0 : 0 ≤ k) (h1 : k ≤ l.length) : n = 0 ∧ next = 0 ∧ e = 10 := by
  unfold intV at h
  rw [if_neg (by omega)] at h
  split at h
  · simp at h; omega
  · simp at h; omega

theorem intV_bd {l : List UInt8} {k n next e : Int} (h : intV l k = (n, next, e)) : -4611686018427387903 ≤ n ∧ n ≤ 4611686018427387903 ∧ 0 ≤ next ∧ next ≤ l.length ∧ 0 ≤ e ∧ e ≤ 10 := by
  by_cases he : e = 0
  · subst he
    obtain ⟨a, b, c, d, f, g, _⟩ := intV_ok h
    exact ⟨c, d, by omega, g, by omega, by omega⟩
  · unfold intV at h
    split at h
    · simp at h; omega
    · split at h <;> simp at h <;> omega

/-- What String accepts is what PutString gives. -/
theorem strV_ok {l v : List UInt8} {k fin : Int} (h : strV l k = (v, fin, 0)) :
    0 ≤ k ∧ k ≤ l.length ∧ v.length ≤ 65536 ∧ k ≤ fin ∧ fin ≤ l.length ∧ (l.drop k.toNat).take (fin.toNat - k.toNat) = enc (zig v.length) ++ v := by
  unfold strV at h
  split at h
  rename_i n start e hi
  split at h
  · simp at h; omega
  · rename_i he
    obtain rfl : e = 0 := by omega
    split at h
    · simp at h
    · rename_i hn
      simp at h
      obtain ⟨rfl, rfl⟩ := h
      obtain ⟨g1, g2, g3, g4, g5, g6, g7, r, hr⟩ := intV_ok hi
      have hs : start.toNat = k.toNat + (enc (zig n)).length := by omega
      have hd : l.drop start.toNat = r := by
        rw [hs, ← List.drop_drop, hr, List.drop_left]
      have hl := congrArg List.length hr
      simp at hl
      have hrl : n.toNat ≤ r.length := by omega
      rw [hd]
      have hlen : (r.take n.toNat).length = n.toNat := by simp; omega
      have hc : ((n.toNat : Nat) : Int) = n := by omega
      refine ⟨g1, g2, by rw [hlen]; omega, by omega, by omega, ?_⟩
      rw [hlen, hc, hr, show (start + n).toNat - k.toNat = (enc (zig n)).length + n.toNat by omega, List.take_length_add_append]

theorem strV_no {l v : List UInt8} {k x e : Int} (h : strV l k = (v, x, e)) (he : e ≠ 0) (h0 : 0 ≤ k) (h1 : k ≤ l.length) : v = [] ∧ x = 0 ∧ e = 10 := by
  unfold strV at h
  split at h
  rename_i n start e' hi
  split at h
  · rename_i he'
    simp at h
    obtain ⟨rfl, rfl, rfl⟩ := h
    exact ⟨rfl, rfl, (intV_no hi he' h0 h1).2.2⟩
  · split at h
    · simp at h
      obtain ⟨rfl, rfl, rfl⟩ := h
      exact ⟨rfl, rfl, rfl⟩
    · simp at h; omega

end Go.Proofs.YtihohjgjklcnlaaDoor.Wa.Enc

namespace Go.Proofs.YtihohjgjklcnlaaDoor.Wa
open Go.RowKit

theorem ret_int {k : IntKind} {a b : Int} (h : a = b) : Ending.returned (.int k a) = .returned (.int k b) := by rw [h]

theorem u8_and127 (b : Nat) (h : b < 256) : bits .and .u8 (b : Int) 127 = ((b % 128 : Nat) : Int) := by
  have := bits_mask .u8 8 (by decide) wraps_u8 7 (by decide) (b : Int) (by omega) (by omega)
  rw [show ((2 : Int) ^ 7 - 1) = 127 by decide] at this
  rw [this]; omega
theorem u8_or128 : ∀ a : Fin 256, bits .or .u8 ((a.val : Nat) : Int) 128 = ((a.val % 128 + 128 : Nat) : Int) := by decide +kernel
theorem u8_or128_any (a : Int) (h0 : 0 ≤ a) (h1 : a < 256) : bits .or .u8 a 128 = a % 128 + 128 := by
  obtain ⟨n, rfl⟩ := Int.eq_ofNat_of_zero_le h0
  have := u8_or128 ⟨n, by omega⟩
  simp only at this
  rw [this]; omega
theorem u64_and1 (z : Nat) (h : z < 18446744073709551616) : bits .and .u64 (z : Int) 1 = ((z % 2 : Nat) : Int) := by
  have h := bits_and_u64_nat z 1 h (by omega)
  rw [Nat.and_one_is_mod] at h
  exact h
theorem wraps_u64' (n : Int) (h₀ : 0 ≤ n) (h₁ : n < 2 ^ 64) : IntKind.u64.wrap n = n := by rw [IntKind.wrap_u64]; omega
theorem wraps_u32' (n : Int) (h₀ : 0 ≤ n) (h₁ : n < 2 ^ 32) : IntKind.u32.wrap n = n := by rw [IntKind.wrap_u32]; omega
/-- 'y | x' where y lies below 2^i and x is a multiple of 2^i. -/
theorem u64_or_join (i : Nat) (y x : Nat) (hi : i < 64) (hy : y < 2 ^ i) (hx : x % 2 ^ i = 0) (hx1 : x < 18446744073709551616) : bits .or .u64 (y : Int) (x : Int) = ((y + x : Nat) : Int) := by
  have hp : 2 ^ i ≤ 2 ^ 63 := Nat.pow_le_pow_right (by omega) (by omega)
  have h2 : (2 : Nat) ^ 63 = 9223372036854775808 := by decide
  have e := (bits_nat .u64 64 (by decide) wraps_u64' y x (by omega) (by omega)).2
  have j := bits_join .u64 64 (by decide) wraps_u64' i (x : Int) (y : Int) (by omega) (by exact_mod_cast hx) (by omega) (by omega) (by exact_mod_cast hy) (by omega)
  have e' := (bits_nat .u64 64 (by decide) wraps_u64' x y (by omega) (by omega)).2
  rw [e'] at j
  rw [e, Nat.or_comm, j]
  omega
theorem u32_and15 (r : Nat) (h : r < 4294967296) : bits .and .u32 (r : Int) 15 = ((r % 16 : Nat) : Int) := by
  have := bits_mask .u32 32 (by decide) wraps_u32' 4 (by decide) (r : Int) (by omega) (by omega)
  rw [show ((2 : Int) ^ 4 - 1) = 15 by decide] at this
  rw [this]; omega
theorem u32_xor (a b : Nat) (ha : a < 4294967296) (hb : b < 4294967296) : bits .xor .u32 (a : Int) (b : Int) = ((a ^^^ b : Nat) : Int) := by
  have hx : a ^^^ b < 2 ^ 32 := Nat.xor_lt_two_pow (by omega) (by omega)
  have h1 : (BitVec.ofInt 32 (a : Int)).toNat = a := by
    rw [BitVec.ofInt_natCast, BitVec.toNat_ofNat]; exact Nat.mod_eq_of_lt (by omega)
  have h2 : (BitVec.ofInt 32 (b : Int)).toNat = b := by
    rw [BitVec.ofInt_natCast, BitVec.toNat_ofNat]; exact Nat.mod_eq_of_lt (by omega)
  show IntKind.u32.wrap ((BitVec.ofInt 32 (a : Int) ^^^ BitVec.ofInt 32 (b : Int)).toNat : Int) = _
  rw [BitVec.toNat_xor, h1, h2, IntKind.wrap_u32]
  omega
theorem u8_xor (a b : Nat) (ha : a < 256) (hb : b < 256) : bits .xor .u8 (a : Int) (b : Int) = ((a ^^^ b : Nat) : Int) := by
  have hx : a ^^^ b < 2 ^ 8 := Nat.xor_lt_two_pow (by omega) (by omega)
  have h1 : (BitVec.ofInt 8 (a : Int)).toNat = a := by
    rw [BitVec.ofInt_natCast, BitVec.toNat_ofNat]; exact Nat.mod_eq_of_lt (by omega)
  have h2 : (BitVec.ofInt 8 (b : Int)).toNat = b := by
    rw [BitVec.ofInt_natCast, BitVec.toNat_ofNat]; exact Nat.mod_eq_of_lt (by omega)
  show IntKind.u8.wrap ((BitVec.ofInt 8 (a : Int) ^^^ BitVec.ofInt 8 (b : Int)).toNat : Int) = _
  rw [BitVec.toNat_xor, h1, h2, IntKind.wrap_u8]
  omega
theorem i64_xor (a b : Nat) (ha : a < 4294967296) (hb : b < 4294967296) : bits .xor .i64 (a : Int) (b : Int) = ((a ^^^ b : Nat) : Int) := by
  have hx : a ^^^ b < 2 ^ 32 := Nat.xor_lt_two_pow (by omega) (by omega)
  have h1 : (BitVec.ofInt 64 (a : Int)).toNat = a := by
    rw [BitVec.ofInt_natCast, BitVec.toNat_ofNat]; exact Nat.mod_eq_of_lt (by omega)
  have h2 : (BitVec.ofInt 64 (b : Int)).toNat = b := by
    rw [BitVec.ofInt_natCast, BitVec.toNat_ofNat]; exact Nat.mod_eq_of_lt (by omega)
  show IntKind.i64.wrap ((BitVec.ofInt 64 (a : Int) ^^^ BitVec.ofInt 64 (b : Int)).toNat : Int) = _
  rw [BitVec.toNat_xor, h1, h2, IntKind.wrap_i64]
  omega

/-- A Go string of these bytes. -/
def bstr (l : List UInt8) : Value := .string ⟨l.toArray⟩

/-! ### pick and the encodings of integers -/

def pickS (c n : Int) : Int := (if c < 0 then -(c + 1) else c) % n
theorem pickS_bd (c n : Int) (h : 1 ≤ n) : 0 ≤ pickS c n ∧ pickS c n < n := by
  unfold pickS
  exact ⟨Int.emod_nonneg _ (by omega), Int.emod_lt_of_pos _ (by omega)⟩

theorem zig_neg {n : Int} (h : n < 0) : ((Enc.zig n : Nat) : Int) = -2 * n - 1 := by unfold Enc.zig; rw [if_pos h]; omega
theorem zig_pos {n : Int} (h : ¬ n < 0) : ((Enc.zig n : Nat) : Int) = 2 * n := by unfold Enc.zig; rw [if_neg h]; omega

theorem fold_any (n : Int) (w : World) (h1 : -4611686018427387903 ≤ n) (h2 : n ≤ 4611686018427387903) :
    Calls Tryd.prog 93 #[.int .i64 n] w fun e w' => e = .returned (.int .u64 ((Enc.zig n : Nat) : Int)) ∧ w = w' := by
  by_cases h : n < 0
  · go_enter Tryd.func93, Tryd.ntmps93
    go_wp2
    go_ret
    exact ⟨ret_int (zig_neg h).symm, rfl⟩
  · have hz := zig_pos h
    have Hz := Lib.hid hz; clear hz
    go_enter Tryd.func93, Tryd.ntmps93
    go_wp2
    go_ret
    exact ⟨ret_int Hz.out.symm, rfl⟩

theorem unfold_any (z : Nat) (w : World) (h2 : z ≤ 9223372036854775807) :
    Calls Tryd.prog 113 #[.int .u64 z] w fun e w' => e = .returned (.int .i64 (Enc.unzig z)) ∧ w = w' := by
  have hb := u64_and1 z (by omega)
  by_cases h : z % 2 = 1
  · have hu : Enc.unzig z = -((z : Int) / 2) - 1 := by unfold Enc.unzig; rw [if_pos h]; omega
    rw [h] at hb
    have Hu := Lib.hid hu; clear hu h
    go_enter Tryd.func113, Tryd.ntmps113
    go_wp2
    go_ret
    exact ⟨ret_int Hu.out.symm, rfl⟩
  · have hu : Enc.unzig z = (z : Int) / 2 := by unfold Enc.unzig; rw [if_neg h]; omega
    rw [show z % 2 = 0 by omega] at hb
    have Hu := Lib.hid hu; clear hu h
    go_enter Tryd.func113, Tryd.ntmps113
    go_wp2
    go_ret
    exact ⟨ret_int Hu.out.symm, rfl⟩
end Go.Proofs.YtihohjgjklcnlaaDoor.Wa

namespace Go.Proofs.YtihohjgjklcnlaaDoor.Wa
open Go.RowKit Go.Shelf

attribute [local go_sem] Oper.semAt_some

/-- What the iterator holds between two rounds: pre has been yielded, r is left, in at most k + 1 groups. -/
def Left (z : Nat) (pre : List UInt8) (k r : Nat) : Prop := Enc.enc z = pre ++ Enc.encF k r ∧ pre.length + k = 8 ∧ r < 128 ^ (k + 1)

theorem Left.start {z : Nat} (h : z < 9223372036854775808) : Left z [] 8 z := ⟨rfl, rfl, by rw [Enc.pow9]; exact h⟩
theorem Left.next {z : Nat} {pre : List UInt8} {k r : Nat} (h : Left z pre k r) (hr : 128 ≤ r) : ∃ k', k = k' + 1 ∧ Left z (pre ++ [UInt8.ofNat (r % 128 + 128)]) k' (r / 128) := by
  obtain ⟨h1, h2, h3⟩ := h
  cases k with
  | zero => simp at h3; omega
  | succ k =>
    refine ⟨k, rfl, ?_, by simp; omega, ?_⟩
    · rw [h1, Enc.encF, if_neg (by omega)]; simp
    · rw [Nat.pow_succ] at h3
      exact Nat.div_lt_of_lt_mul (by rw [Nat.mul_comm]; exact h3)
theorem Left.last {z : Nat} {pre : List UInt8} {k r : Nat} (h : Left z pre k r) (hr : r < 128) : Enc.enc z = pre ++ [UInt8.ofNat r] := by
  obtain ⟨h1, _, _⟩ := h
  rw [h1]
  cases k <;> simp [Enc.encF, hr]
theorem Left.len {z : Nat} {pre : List UInt8} {k r : Nat} (h : Left z pre k r) : pre.length < 9 := by
  obtain ⟨_, h2, _⟩ := h; omega

set_option maxRecDepth 100000 in
set_option maxHeartbeats 1000000 in
theorem groups1_in (F : Fence) (n : Nat) (hF : F.fn 104) (hro : F.round = none) (hn : 1 ≤ n) (l Bn n₀ : Nat) (z : Nat) (hz : z < 9223372036854775808) (J Jx : List UInt8 → World → Prop)
    (hY : ∀ pre x W, J pre W → pre.length < 9 → YieldAt F (n - 1) Tryd.prog l #[.int .u8 ((x.toNat : Nat) : Int)] W fun e W' =>
      (e = .returned (.bool true) ∧ J (pre ++ [x]) W' ∧ Below n₀ W W') ∨ (e = .returned (.bool false) ∧ Jx (pre ++ [x]) W'))
    (W : World) (hBn : W.cell? ⟨Bn, 0, none⟩ = some (.int .u64 (z : Int))) (h0 : J [] W) :
    CallsIn F n Tryd.prog 104 #[.func (.yield l) #[] #[], .pointer (some ⟨Bn, 0, none⟩)] W fun e W' => (∃ v, e = .returned v) ∧
      ((∃ ys, ys = Enc.enc z ∧ J ys W') ∨ (∃ pre, pre <+: Enc.enc z ∧ Jx pre W')) := by
  refine callsIn_of_wp Tryd.func104 rfl hF ?_ hro
  simp only [Tryd.ntmps104, List.size_toArray, List.length_cons, List.length_nil, Nat.reduceAdd, Nat.reduceSub, Array.replicate_succ, Array.replicate_zero, List.push_toArray, List.append_toArray, List.nil_append, List.cons_append]
  gi_wp2
  gi_loopw [3] (fun p wr => ∃ (pre : List UInt8) (k r : Nat), p = .int .u64 (r : Int) ∧ Left z pre k r ∧ r < 9223372036854775808 ∧ J pre wr)
    (fun p _ => (intOf p).toNat)
  case atStart => exact ⟨[], 8, z, rfl, Left.start hz, hz, h0⟩
  case round =>
    obtain ⟨pre, k, r, rfl, hL, hr, hJ⟩ := hrel
    have HL := Lib.hid hL; clear hL
    by_cases h : 128 ≤ r
    · obtain ⟨fn, tmps, assign, body, hy, hR⟩ := hY pre (UInt8.ofNat (r % 128 + 128)) wr hJ HL.out.len
      rw [Enc.toNat_small (by omega), show ((r % 128 + 128 : Nat) : Int) = bits BinOp.or IntKind.u8 ((r : Int) % 256) 128 by rw [u8_or128_any _ (by omega) (by omega)]; omega] at hy
      obtain ⟨k', rfl, HN⟩ := HL.out.next h
      have HN := Lib.hid HN
      gi_wp2
      refine hR.mono ?_
      rintro e W3 (⟨rfl, hJ3, hk3⟩ | ⟨rfl, hJx3⟩)
      · gi_wp2
        go_roundw
        case rel => exact ⟨pre ++ [UInt8.ofNat (r % 128 + 128)], k', r / 128, by simp, HN.out, by omega, hJ3⟩
        case measure => simp [intOf]; omega
      · gi_wp2
        refine bodyPost_ret (results_none rfl _ _ _) rfl ?_
        refine ⟨⟨_, rfl⟩, .inr ⟨_, ?_, hJx3⟩⟩
        exact ⟨_, HN.out.1.symm⟩
    · obtain ⟨fn, tmps, assign, body, hy, hR⟩ := hY pre (UInt8.ofNat r) wr hJ HL.out.len
      rw [Enc.toNat_small (by omega)] at hy
      have hb : IntKind.u8.wrap (r : Int) = (r : Int) := by rw [IntKind.wrap_u8]; omega
      have HE := Lib.hid (HL.out.last (by omega))
      gi_wp2
      refine hR.mono ?_
      rintro e W3 (⟨rfl, hJ3, hk3⟩ | ⟨rfl, hJx3⟩)
      · gi_wp2
        go_end0
        exact ⟨⟨_, rfl⟩, .inl ⟨_, HE.out.symm, hJ3⟩⟩
      · gi_wp2
        go_end0
        exact ⟨⟨_, rfl⟩, .inr ⟨_, by rw [HE.out]; exact List.prefix_rfl, hJx3⟩⟩

theorem groups_in (F : Fence) (n : Nat) (hF : F.fn 92) (hro : F.round = none) (z : Nat) (w : World) :
    CallsIn F n Tryd.prog 92 #[.int .u64 (z : Int)] w fun e w' => e = .returned (.func (.func 104) #[] #[.pointer (some ⟨w.heap.size, 0, none⟩)]) ∧ w' = w.alloc (.cells #[.int .u64 (z : Int)] 161) := by
  refine callsIn_of_wp Tryd.func92 rfl hF ?_ hro
  simp only [Tryd.ntmps92, List.size_toArray, List.length_cons, List.length_nil, Nat.reduceAdd, Nat.reduceSub, Array.replicate_succ, Array.replicate_zero, List.push_toArray, List.append_toArray, List.nil_append, List.cons_append]
  gi_wp2
  go_ret
  exact ⟨rfl, rfl⟩

theorem groups_stops (F : Fence) (n : Nat) (hF : F.fn 104) (hro : F.round = none) (hn : 1 ≤ n) (Bn n₀ : Nat) (z : Nat) (hz : z < 9223372036854775808) (w : World) (hBn : Bn < w.heap.size)
    (hc : w.cell? ⟨Bn, 0, none⟩ = some (.int .u64 (z : Int))) :
    SeqStopsK F n Tryd.prog 104 #[.pointer (some ⟨Bn, 0, none⟩)] (fun x : UInt8 => #[Value.int .u8 ((x.toNat : Nat) : Int)]) (Below n₀) (fun ys => ys = Enc.enc z) (fun pre => pre <+: Enc.enc z) 9 w := fun l J Jx W hW _ _ hY h0 =>
  groups1_in F n hF hro hn l Bn n₀ z hz J Jx hY W ((hW.cell (p := ⟨Bn, 0, none⟩) hBn).trans hc) h0

end Go.Proofs.YtihohjgjklcnlaaDoor.Wa

namespace Go.Proofs.YtihohjgjklcnlaaDoor.Wa
open Go.RowKit Go.Shelf

attribute [local go_sem] Oper.semAt_some

theorem info_u8 : (Tryd.prog.info? 5).map (fun i => (i.zero, i.size, i.bytes)) = some (some (.int .u8 0), 1, 1) := by kernel_rfl

def bytesV (l : List UInt8) : List Value := l.map fun x => Value.int .u8 ((x.toNat : Nat) : Int)
/-- What PutInt answers. -/
def PutEnd (n : Int) (w : World) (e : Ending) (w' : World) : Prop :=
  e = .returned (.tuple #[bstr (Enc.putBytes n), .int .i64 (Enc.putErr n)]) ∧ Below w.heap.size w w'

theorem row_string {W : World} {n₀ : Nat} {v : Value} {l : List UInt8} (h : W.ownsRow n₀ 5 1 v l.length (bytesV l)) (hl : 0 < l.length) :
    ∃ g cap, v = .slice (some ⟨g, 0, none⟩) l.length cap ∧ (convert 65 9 (.slice (some ⟨g, 0, none⟩) l.length cap)).run Tryd.prog W = .ok (.string ⟨l.toArray⟩) W := by
  obtain ⟨g, cap, rfl⟩ : ∃ g cap, v = .slice (some ⟨g, 0, none⟩) l.length cap := by
    rcases h.2 with ⟨_, h0⟩ | ⟨g, cap, _, hv, _⟩
    · omega
    · exact ⟨g, cap, hv⟩
  refine ⟨g, cap, rfl, run_convert_bytes_back W 65 9 5 ⟨g, 0, none⟩ cap l Tryd.underlying65 Tryd.underlying5 Tryd.underlying9 ?_⟩
  intro j hj
  exact h.cells (g := g) rfl j _ (by simp [bytesV, hj])

theorem putInt_no (n : Int) (w : World) (h : n < -4611686018427387903 ∨ 4611686018427387903 < n) :
    Calls Tryd.prog 69 #[.int .i64 n] w (PutEnd n w) := by
  have hp : PutEnd n w (.returned (.tuple #[.string ⟨#[]⟩, .int .i64 10])) w := by
    unfold PutEnd bstr Enc.putBytes Enc.putErr; rw [if_pos h, if_pos h]; exact ⟨rfl, Below.refl _ _⟩
  have HP := Lib.hid hp; clear hp
  rcases h with h | h
  · go_enter Tryd.func69, Tryd.ntmps69
    go_wp2
    go_ret2
    exact HP.out
  · have h' : decide (n < -4611686018427387903) = false := by simp; omega
    go_enter Tryd.func69, Tryd.ntmps69
    go_wp2
    go_ret2
    exact HP.out

set_option maxRecDepth 100000 in
set_option maxHeartbeats 2000000 in
theorem putInt_yes (n : Int) (w : World) (hlo : -4611686018427387903 ≤ n) (hhi : n ≤ 4611686018427387903) :
    Calls Tryd.prog 69 #[.int .i64 n] w (PutEnd n w) := by
  have hp : ∀ w', Below w.heap.size w w' → PutEnd n w (.returned (.tuple #[.string ⟨(Enc.enc (Enc.zig n)).toArray⟩, .int .i64 0])) w' := by
    intro w' hb
    unfold PutEnd bstr; rw [Enc.putBytes_in hlo hhi, Enc.putErr_in hlo hhi]; exact ⟨rfl, hb⟩
  have HP := Lib.hid hp; clear hp
  have hz := Enc.zig_le hlo hhi
  have hd0 : decide (n < -4611686018427387903) = false := by simp; omega
  have hd1 : decide (4611686018427387903 < n) = false := by simp; omega
  obtain ⟨i0, hi, hz0, hz1, hz2⟩ := info_parts info_u8
  refine (callsIn_wide (n := 4)).1 ?_
  refine callsIn_of_wp_marks Tryd.func69 rfl trivial ?_ rfl
  simp only [Tryd.ntmps69, List.size_toArray, List.length_cons, List.length_nil, Nat.reduceAdd, Nat.reduceSub, Array.replicate_succ, Array.replicate_zero, List.push_toArray, List.append_toArray, List.nil_append, List.cons_append]
  gi_wp2_with (first | (refine ⟨trivial, ?_⟩; gi_at_call 93; refine (callsIn_wide.2 (fold_any n _ hlo hhi)).mono ?_; rintro e w' ⟨rfl, rfl⟩) | (refine ⟨trivial, ?_⟩; gi_at_call 92; refine (groups_in Fence.wide _ trivial rfl (Enc.zig n) _).mono ?_; rintro e w' ⟨rfl, rfl⟩))
  have bO := Boxed.new w 65 (.slice none 0 0)
  have bN := Boxed.new (w.alloc (.cells #[.slice none 0 0] 65)) 161 (.int .u64 ((Enc.zig n : Nat) : Int))
  rw [World.size_alloc] at bN
  have hB0 : Below w.heap.size w ((w.alloc (.cells #[.slice none 0 0] 65)).alloc (.cells #[.int .u64 ((Enc.zig n : Nat) : Int)] 161)) := ((Below.refl _ w).alloc (Nat.le_refl _) _).alloc (by simp) _
  refine wpIn_rangeFunc_ownG rfl (by omega) (gf := 104) (lb := #[.pointer (some ⟨w.heap.size + 1, 0, none⟩)]) rfl trivial (enters_of Tryd.func104 (by kernel_rfl) rfl)
    (groups_stops Fence.wide 3 trivial rfl (by omega) (w.heap.size + 1) w.heap.size (Enc.zig n) (by omega) _ (by simp) bN.cell) belowK_t (belowK_b (by simp; omega)) (Below.refl _ _) (fun _ => rfl)
    (fun pre W => (∃ v, Boxed W w.heap.size 65 v ∧ W.ownsRow w.heap.size 5 1 v pre.length (bytesV pre) ∧ True) ∧ Below w.heap.size w W)
    (fun _ _ _ => False)
    (OwnFrom.and (Own.from (holdsRow_own w.heap.size w.heap.size 65 5 1 (fun pre : List UInt8 => pre.length) bytesV (fun _ _ => True)) _) (ownFrom_below (Nat.le_refl _) (by simp; omega)))
    (fun _ _ _ _ _ hs _ _ => hs)
    ⟨⟨_, bO.alloc _, World.ownsRow_nil _ _ _ _, trivial⟩, hB0⟩
    (fun x => { tmps := #[.int .i64 n, undef, .string ⟨#[]⟩, .int .i64 0, .pointer (some ⟨w.heap.size, 0, none⟩), .int .u8 ((x.toNat : Nat) : Int), .int .i64 n, .bool false, .bool false, .int .i64 n, .bool false, .bool false, .int .i64 n, .int .u64 ((Enc.zig n : Nat) : Int), .func (.func 104) #[] #[.pointer (some ⟨w.heap.size + 1, 0, none⟩)], .int .u8 ((x.toNat : Nat) : Int), undef, undef, undef, undef, undef, undef], defers := [] }) ?assign ?body ?done ?stop
  case assign =>
    intro l x W K hK
    gi_wp2
    exact hK
  case body =>
    rintro l pre x W ⟨⟨v, hv, hrow, hnil⟩, hB⟩ hlt
    have hc := hv.cell
    gi_wp2_with (gi_at_builtin; refine wpListIn_append_own _ rfl _ _ 65 rfl w.heap.size 5 i0 (.int .u8 0) 1 1 Tryd.underlying65 hi hz0 hz1 hz2 rfl (by decide) _ _ _ rfl (hrow.alloc _) ⟨W.heap.size, 0, none⟩ 1 1 [.int .u8 ((x.toNat : Nat) : Int)] rfl rfl (cell_one_new _ _ _) (by simp [Value.oneCell']) (by unfold maxLen; omega) (by omega) (by have := hB.size; simp; omega) ?_; intro v' w1 hown' hgrow _; obtain ⟨g', cap', rfl⟩ := ownsRow_succ hown'; obtain ⟨hv1, hv2, hr2, hk2, hb2⟩ := hv.appended (by decide) hrow hB.size (Nat.le_refl _) hown' hgrow; have hc1 := hv1.cell; have hf1 := hv1.frozen)
    exact ⟨hk2.from _, hb2, ⟨_, hv2, by simpa [bytesV] using hr2, trivial⟩, hB.trans hb2⟩
  case done =>
    rintro D ys W hD rfl ⟨⟨v, hv, hrow, hnil⟩, hB⟩ hK
    obtain ⟨g, cap, rfl, hconv⟩ := row_string hrow (Enc.enc_pos _)
    have hc := hv.cell
    gi_wp2
    refine ⟨by simp, .inl ⟨_, _, rfl, run_takeDeferred hK, ?_⟩⟩
    refine ⟨_, results_tmp2 rfl _ _ _, ?_⟩
    exact HP.out _ (hB.trans (belowK_b (w := w) (Nat.le_refl _) W D _ _ (by simp at hD; omega) hK rfl rfl))
  case stop =>
    rintro D c pre W _ _ h _
    exact h.elim

theorem putInt_any (n : Int) (w : World) : Calls Tryd.prog 69 #[.int .i64 n] w (PutEnd n w) := by
  by_cases h : n < -4611686018427387903 ∨ 4611686018427387903 < n
  · exact putInt_no n w h
  · exact putInt_yes n w (by omega) (by omega)
end Go.Proofs.YtihohjgjklcnlaaDoor.Wa

namespace Go.Proofs.YtihohjgjklcnlaaDoor.Wa
open Go.RowKit

theorem toList_drop (s : ByteArray) (k : Nat) (h : k < s.size) : s.data.toList.drop k = s[k] :: s.data.toList.drop (k + 1) := by
  rw [List.drop_eq_getElem_cons (by simpa using h)]; rfl
theorem toList_len (s : ByteArray) : s.data.toList.length = s.size := by simp

/-- What k groups of the list L have come to: z0, of the first k groups; all of them go on. -/
def DecRel (L : List UInt8) (k z0 : Nat) : Prop :=
  z0 < 128 ^ k ∧ Enc.dec 9 L = (Enc.dec (9 - k) (L.drop k)).map fun x => (z0 + 128 ^ k * x.1, k + x.2.1, x.2.2)
theorem DecRel.zero (L : List UInt8) : DecRel L 0 0 := by
  refine ⟨by simp, ?_⟩
  simp only [Nat.sub_zero, List.drop_zero, Nat.pow_zero, Nat.one_mul, Nat.zero_add]
  cases Enc.dec 9 L <;> rfl
theorem DecRel.next {L : List UInt8} {k z0 : Nat} (h : DecRel L k z0) (hk : k < 9) {b : UInt8} (hb : L.drop k = b :: L.drop (k + 1)) (hc : 128 ≤ b.toNat) : DecRel L (k + 1) (z0 + b.toNat % 128 * 128 ^ k) := by
  obtain ⟨h1, h2⟩ := h
  have e : 9 - k = (9 - (k + 1)) + 1 := by omega
  have hm : b.toNat % 128 * 128 ^ k ≤ 127 * 128 ^ k := Nat.mul_le_mul_right _ (by omega)
  refine ⟨by rw [Nat.pow_succ]; omega, ?_⟩
  rw [h2, e, hb, Enc.dec, if_neg (by omega)]
  cases Enc.dec (9 - (k + 1)) (L.drop (k + 1)) with
  | none => rfl
  | some x =>
    simp only [Option.map_some, Option.some.injEq, Prod.mk.injEq, and_true]
    refine ⟨?_, by omega⟩
    rw [Nat.pow_succ, Nat.mul_add, ← Nat.mul_assoc, Nat.mul_comm (128 ^ k) (b.toNat % 128)]
    omega
theorem DecRel.last {L : List UInt8} {k z0 : Nat} (h : DecRel L k z0) (hk : k < 9) {b : UInt8} {r : List UInt8} (hb : L.drop k = b :: r) (hc : b.toNat < 128) : Enc.dec 9 L = some (z0 + b.toNat % 128 * 128 ^ k, k + 1, b) := by
  obtain ⟨_, h2⟩ := h
  have e : 9 - k = (9 - (k + 1)) + 1 := by omega
  rw [h2, e, hb, Enc.dec, if_pos hc]
  simp only [Option.map_some, Option.some.injEq, Prod.mk.injEq, and_true]
  rw [Nat.mod_eq_of_lt hc, Nat.mul_comm]
theorem DecRel.none {L : List UInt8} {k z0 : Nat} (h : DecRel L k z0) (hk : k = 9 ∨ L.drop k = []) : Enc.dec 9 L = none := by
  obtain ⟨_, h2⟩ := h
  rw [h2]
  rcases hk with rfl | hk
  · rfl
  · rw [hk]; cases 9 - k <;> rfl

/-- 'z |= uint64(b&127) << (7 * k)'. -/
theorem orShift (z0 b k : Nat) (hk : k < 9) (hz : z0 < 128 ^ k) (hb : b < 256) :
    bits .or .u64 (z0 : Int) (IntKind.u64.wrap (IntKind.u64.wrap (bits .and .u8 (b : Int) 127) * 2 ^ (7 * k))) = ((z0 + b % 128 * 128 ^ k : Nat) : Int) := by
  have hp : (2 : Nat) ^ (7 * k) = 128 ^ k := by rw [Nat.pow_mul]
  have hp' : (2 : Int) ^ (7 * k) = ((128 ^ k : Nat) : Int) := by rw [← hp]; simp
  have h9 : 128 ^ k ≤ 128 ^ 8 := Nat.pow_le_pow_right (by omega) (by omega)
  have h8 : (128 : Nat) ^ 8 = 72057594037927936 := by decide
  have hm : b % 128 * 128 ^ k ≤ 127 * 128 ^ k := Nat.mul_le_mul_right _ (by omega)
  rw [u8_and127 b hb, wraps_u64' ((b % 128 : Nat) : Int) (by omega) (by omega), hp']
  have e : (((b % 128 : Nat) : Int) * ((128 ^ k : Nat) : Int)) = ((b % 128 * 128 ^ k : Nat) : Int) := by simp
  rw [e, wraps_u64' _ (by omega) (by omega)]
  exact u64_or_join (7 * k) _ _ (by omega) (by rw [hp]; exact hz) (by rw [hp]; exact Nat.mul_mod_left _ _) (by omega)

/-- What join answers. -/
def joinV (L : List UInt8) (a : Nat) : Nat × Int × Bool :=
  match Enc.dec 9 L with
  | some (z, m, b) => (z, (a : Int) + m, decide (b ≠ 0 ∨ m = 1))
  | none => (0, 0, false)

def JoinEnd (L : List UInt8) (a : Nat) (w : World) (e : Ending) (w' : World) : Prop :=
  e = .returned (.tuple #[.int .u64 ((joinV L a).1 : Nat), .int .i64 (joinV L a).2.1, .bool (joinV L a).2.2]) ∧ w = w'

theorem join_end {L : List UInt8} {a z m : Nat} {b : UInt8} {w : World} (h : Enc.dec 9 L = some (z, m, b)) {x y : Int} {o : Bool} (hx : x = z) (hy : y = (a : Int) + m) (ho : o = decide (b ≠ 0 ∨ m = 1)) :
    JoinEnd L a w (.returned (.tuple #[.int .u64 x, .int .i64 y, .bool o])) w := by
  unfold JoinEnd joinV
  rw [h]; subst hx; subst hy; subst ho
  exact ⟨rfl, rfl⟩
theorem join_no {L : List UInt8} {a : Nat} {w : World} (h : Enc.dec 9 L = none) :
    JoinEnd L a w (.returned (.tuple #[.int .u64 0, .int .i64 0, .bool false])) w := by
  unfold JoinEnd joinV
  rw [h]
  exact ⟨rfl, rfl⟩

set_option maxRecDepth 100000 in
set_option maxHeartbeats 400000 in
theorem join_any (s : ByteArray) (a : Nat) (w : World) (hs : s.size ≤ maxLen) (ha : a ≤ s.size) :
    Calls Tryd.prog 112 #[.string s, .int .i64 (a : Int)] w (JoinEnd (s.data.toList.drop a) a w) := by
  unfold maxLen at hs
  go_enter Tryd.func112, Tryd.ntmps112
  go_wp2
  go_loop [7, 8] (fun z i => ∃ k z0 : Nat, k ≤ 9 ∧ a + k ≤ s.size ∧ i = .int .i64 k ∧ z = .int .u64 z0 ∧ DecRel (s.data.toList.drop a) k z0) (fun _ i => 9 - (intOf i).toNat)
  case atStart => exact ⟨0, 0, by omega, by omega, rfl, rfl, DecRel.zero _⟩
  case round =>
    obtain ⟨k, z0, hk, hak, rfl, rfl, hd⟩ := hrel
    by_cases h9 : k < 9
    · by_cases hl : a + k < s.size
      · have hb : (s.data.toList.drop a).drop k = s[a + k] :: (s.data.toList.drop a).drop (k + 1) := by
          rw [List.drop_drop, List.drop_drop, toList_drop s (a + k) hl, Nat.add_assoc]
        have hlt : s[a + k].toNat < 256 := s[a + k].toNat_lt
        have HO := Lib.hid (orShift z0 s[a + k].toNat k h9 hd.1 hlt)
        have HO0 := Lib.hid (orShift z0 0 k h9 hd.1 (by omega))
        have HB := Lib.hid hb
        clear hb hlt
        go_wp2
        · have h0 : s[a + k].toNat = 0 := by assumption
          go_ret3
          refine join_end (hd.last h9 HB.out (by omega)) (by rw [h0]; exact HO0.out) (by omega) ?_
          have e : s[a + k] = 0 := UInt8.toNat_inj.1 (by rw [h0]; rfl)
          rw [e, Bool.eq_iff_iff]
          simp
        · have h0 : ¬ s[a + k].toNat = 0 := by assumption
          have h1 : (s[a + k].toNat : Int) < 128 := by assumption
          go_ret3
          refine join_end (hd.last h9 HB.out (by omega)) HO.out (by omega) ?_
          have e : s[a + k] ≠ 0 := fun e => h0 (by rw [e]; rfl)
          simp [e]
        · have h1 : (128 : Int) ≤ s[a + k].toNat := by assumption
          go_round
          case rel => exact ⟨k + 1, _, by omega, by omega, by go_num, by rw [HO.out], hd.next h9 HB.out (by omega)⟩
          case measure => simp [intOf]; omega
      · have hn := hd.none (.inr (by rw [List.drop_drop]; exact List.drop_eq_nil_of_le (by rw [toList_len]; omega)))
        have HN := Lib.hid hn; clear hn
        go_wp2
        go_ret3
        exact join_no HN.out
    · have h8 : decide ((k : Int) < 9) = false := by simp; omega
      have hn := hd.none (.inl (by omega))
      have HN := Lib.hid hn; clear hn
      go_wp2
      go_ret3
      exact join_no HN.out
end Go.Proofs.YtihohjgjklcnlaaDoor.Wa

namespace Go.Proofs.YtihohjgjklcnlaaDoor.Wa
open Go.RowKit

theorem tup3 {a b c a' b' c' : Value} (ha : a = a') (hb : b = b') (hc : c = c') : Ending.returned (.tuple #[a, b, c]) = .returned (.tuple #[a', b', c']) := by rw [ha, hb, hc]
theorem vint {k : IntKind} {a b : Int} (h : a = b) : Value.int k a = .int k b := by rw [h]

/-- What Int answers, as the model's value. -/
def IntEnd (L : List UInt8) (at' : Int) (w : World) (e : Ending) (w' : World) : Prop :=
  e = .returned (.tuple #[.int .i64 (Enc.intV L at').1, .int .i64 (Enc.intV L at').2.1, .int .i64 (Enc.intV L at').2.2]) ∧ w = w'
theorem int_end {L : List UInt8} {at' x y z : Int} {w : World} (h : Enc.intV L at' = (x, y, z)) :
    IntEnd L at' w (.returned (.tuple #[.int .i64 x, .int .i64 y, .int .i64 z])) w := by
  unfold IntEnd; rw [h]; exact ⟨rfl, rfl⟩

theorem intV_of_dec {L : List UInt8} {a z m : Nat} {b : UInt8} (ha : a ≤ L.length) (h : Enc.dec 9 (L.drop a) = some (z, m, b)) (hb : b ≠ 0 ∨ m = 1) (hz : z ≤ 9223372036854775806) :
    Enc.intV L a = (Enc.unzig z, (a : Int) + m, 0) := by
  unfold Enc.intV Enc.decOK
  rw [if_neg (by omega), Int.toNat_natCast, h]
  simp only
  rw [if_pos ⟨hb, hz⟩]
theorem intV_of_bad {L : List UInt8} {a z m : Nat} {b : UInt8} (ha : a ≤ L.length) (h : Enc.dec 9 (L.drop a) = some (z, m, b)) (hb : ¬ ((b ≠ 0 ∨ m = 1) ∧ z ≤ 9223372036854775806)) :
    Enc.intV L a = (0, 0, 10) := by
  unfold Enc.intV Enc.decOK
  rw [if_neg (by omega), Int.toNat_natCast, h]
  simp only
  rw [if_neg hb]
theorem intV_of_none {L : List UInt8} {a : Nat} (ha : a ≤ L.length) (h : Enc.dec 9 (L.drop a) = none) :
    Enc.intV L a = (0, 0, 10) := by
  unfold Enc.intV Enc.decOK
  rw [if_neg (by omega), Int.toNat_natCast, h]

/-- The three ways in which join ends, seen from Int. -/
theorem joinV_cases (L : List UInt8) (a : Nat) (ha : a ≤ L.length) :
    (∃ z : Nat, ∃ y : Int, joinV (L.drop a) a = (z, y, true) ∧ z ≤ 9223372036854775806 ∧ 0 ≤ y ∧ y ≤ L.length ∧ Enc.intV L a = (Enc.unzig z, y, 0)) ∨
    (∃ z : Nat, ∃ y : Int, joinV (L.drop a) a = (z, y, true) ∧ 9223372036854775806 < z ∧ z < 9223372036854775808 ∧ Enc.intV L a = (0, 0, 10)) ∨
    (∃ z : Nat, ∃ y : Int, joinV (L.drop a) a = (z, y, false) ∧ Enc.intV L a = (0, 0, 10)) := by
  cases h : Enc.dec 9 (L.drop a) with
  | none => exact .inr (.inr ⟨0, 0, by unfold joinV; rw [h], intV_of_none ha h⟩)
  | some x =>
    obtain ⟨z, m, b⟩ := x
    by_cases hb : b ≠ 0 ∨ m = 1
    · obtain ⟨hz, _, ⟨r, hr⟩, hm, _, _⟩ := Enc.encF_dec 8 _ _ _ _ h hb
      rw [Enc.pow9] at hz
      have hl := congrArg List.length hr
      simp at hl
      by_cases hz' : z ≤ 9223372036854775806
      · exact .inl ⟨z, (a : Int) + m, by unfold joinV; rw [h]; simp [hb], hz', by omega, by omega, intV_of_dec ha h hb hz'⟩
      · exact .inr (.inl ⟨z, (a : Int) + m, by unfold joinV; rw [h]; simp [hb], by omega, hz, intV_of_bad ha h (fun c => hz' c.2)⟩)
    · exact .inr (.inr ⟨z, (a : Int) + m, by unfold joinV; rw [h]; simp only [hb]; rfl, intV_of_bad ha h (fun c => hb c.1)⟩)

set_option maxRecDepth 100000 in
set_option maxHeartbeats 400000 in
theorem int_any (s : ByteArray) (at' : Int) (w : World) (hs : s.size ≤ maxLen) :
    Calls Tryd.prog 109 #[.string s, .int .i64 at'] w (IntEnd s.data.toList at' w) := by
  by_cases h0 : at' < 0
  · go_enter Tryd.func109, Tryd.ntmps109
    go_wp2
    go_ret3
    exact int_end (by unfold Enc.intV; rw [if_pos (.inl h0)])
  by_cases h1 : (s.size : Int) < at'
  · go_enter Tryd.func109, Tryd.ntmps109
    go_wp2
    go_ret3
    exact int_end (by unfold Enc.intV; rw [if_pos (.inr (by simpa using h1))])
  obtain ⟨a, rfl⟩ := Int.eq_ofNat_of_zero_le (show 0 ≤ at' by omega)
  have ha : a ≤ s.size := by omega
  have hd0 : decide ((a : Int) < 0) = false := by simp
  have hc := join_any s a w hs ha
  have hs' := hs
  unfold maxLen at hs'
  rcases joinV_cases s.data.toList a (by simpa using ha) with ⟨z, y, hj, hz, hy0, hy1, hv⟩ | ⟨z, y, hj, hz, hz2, hv⟩ | ⟨z, y, hj, hv⟩
  · have hc' : Calls Tryd.prog 112 #[.string s, .int .i64 (a : Int)] w fun e w' => e = .returned (.tuple #[.int .u64 (z : Int), .int .i64 y, .bool true]) ∧ w = w' := hc.mono fun e w' h => by unfold JoinEnd at h; rw [hj] at h; exact h
    have HV := Lib.hid hv; have HC := Lib.hid hc'
    clear hc hv hj hc' hs
    simp at hy1
    go_enter Tryd.func109, Tryd.ntmps109
    go_wp2_with (first | (go_at_call 112; refine HC.out.mono ?_; rintro e w' ⟨rfl, rfl⟩) | (go_at_call 113; refine (unfold_any z _ (by omega)).mono ?_; rintro e w' ⟨rfl, rfl⟩))
    go_ret3
    exact int_end HV.out
  · have hc' : Calls Tryd.prog 112 #[.string s, .int .i64 (a : Int)] w fun e w' => e = .returned (.tuple #[.int .u64 (z : Int), .int .i64 y, .bool true]) ∧ w = w' := hc.mono fun e w' h => by unfold JoinEnd at h; rw [hj] at h; exact h
    have HV := Lib.hid hv; have HC := Lib.hid hc'
    clear hc hv hj hc' hs
    go_enter Tryd.func109, Tryd.ntmps109
    go_wp2_with (first | (go_at_call 112; refine HC.out.mono ?_; rintro e w' ⟨rfl, rfl⟩))
    go_ret3
    exact int_end HV.out
  · have hc' : Calls Tryd.prog 112 #[.string s, .int .i64 (a : Int)] w fun e w' => e = .returned (.tuple #[.int .u64 (z : Int), .int .i64 y, .bool false]) ∧ w = w' := hc.mono fun e w' h => by unfold JoinEnd at h; rw [hj] at h; exact h
    have HV := Lib.hid hv; have HC := Lib.hid hc'
    clear hc hv hj hc' hs
    go_enter Tryd.func109, Tryd.ntmps109
    go_wp2_with (first | (go_at_call 112; refine HC.out.mono ?_; rintro e w' ⟨rfl, rfl⟩))
    go_ret3
    exact int_end HV.out
end Go.Proofs.YtihohjgjklcnlaaDoor.Wa
