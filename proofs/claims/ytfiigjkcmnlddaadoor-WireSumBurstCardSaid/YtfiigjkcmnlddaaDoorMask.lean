/-
  The plain arithmetic of WireSumBurst: bytes with some consecutive bits changed, and their checksum. No program is imported; there are no conditions.
-/
import Derived.Test.YtfiigjkcmnlddaaDoorBits
namespace Go.Proofs.YtfiigjkcmnlddaaDoor.Crc

/-- The number whose lowest k bits are those of g. -/
def bitsNat (g : Nat → Bool) : Nat → Nat
  | 0 => 0
  | k + 1 => bitsNat g k + (if g k then 2 ^ k else 0)
theorem bitsNat_lt (g : Nat → Bool) : ∀ k, bitsNat g k < 2 ^ k
  | 0 => by simp [bitsNat]
  | k + 1 => by
    have := bitsNat_lt g k
    unfold bitsNat
    rw [Nat.pow_succ]
    split <;> omega
theorem bitsNat_testBit (g : Nat → Bool) : ∀ k i, (bitsNat g k).testBit i = (decide (i < k) && g i)
  | 0, i => by simp [bitsNat]
  | k + 1, i => by
    have ih := bitsNat_testBit g k i
    have hl := bitsNat_lt g k
    unfold bitsNat
    by_cases hk : g k = true
    · rw [if_pos hk, Nat.add_comm]
      by_cases h1 : i < k
      · rw [Nat.testBit_two_pow_add_gt h1, ih]
        simp [h1, Nat.lt_succ_of_lt h1]
      · by_cases h2 : i = k
        · subst h2
          rw [Nat.testBit_two_pow_add_eq, ih]
          simp [hk]
        · have : 2 ^ k + bitsNat g k < 2 ^ i := by
            have h3 : 2 ^ (k + 1) ≤ 2 ^ i := Nat.pow_le_pow_right (by omega) (by omega)
            rw [Nat.pow_succ] at h3
            omega
          rw [Nat.testBit_lt_two_pow this]
          have h4 : ¬ i < k + 1 := by omega
          simp [h4]
    · rw [if_neg hk, Nat.add_zero, ih]
      by_cases h2 : i = k
      · subst h2; simp [hk]
      · by_cases h1 : i < k
        · simp [h1, Nat.lt_succ_of_lt h1]
        · have h4 : ¬ i < k + 1 := by omega
          simp [h1, h4]

/-- Byte j of the bits f. -/
def byteOf (f : Nat → Bool) (j : Nat) : UInt8 := UInt8.ofNat (bitsNat (fun b => f (8 * j + b)) 8)
theorem byteOf_toNat (f : Nat → Bool) (j : Nat) : (byteOf f j).toNat = bitsNat (fun b => f (8 * j + b)) 8 := by
  have := bitsNat_lt (fun b => f (8 * j + b)) 8
  unfold byteOf
  rw [UInt8.toNat_ofNat']
  exact Nat.mod_eq_of_lt this
theorem byteOf_testBit (f : Nat → Bool) (j b : Nat) (hb : b < 8) : (byteOf f j).toNat.testBit b = f (8 * j + b) := by
  rw [byteOf_toNat, bitsNat_testBit]; simp [hb]
theorem byte_ext {x y : UInt8} (h : ∀ b, b < 8 → x.toNat.testBit b = y.toNat.testBit b) : x = y := by
  apply UInt8.toNat_inj.1
  apply Nat.eq_of_testBit_eq
  intro i
  by_cases hi : i < 8
  · exact h i hi
  · have h8 : (2 : Nat) ^ 8 ≤ 2 ^ i := Nat.pow_le_pow_right (by omega) (by omega)
    have hx := x.toNat_lt
    have hy := y.toNat_lt
    rw [Nat.testBit_lt_two_pow (by omega), Nat.testBit_lt_two_pow (by omega)]

def mask (f : Nat → Bool) (n : Nat) : List UInt8 := (List.range n).map (byteOf f)
theorem mask_length (f : Nat → Bool) (n : Nat) : (mask f n).length = n := by simp [mask]
theorem mask_bits (f : Nat → Bool) : ∀ n, (mask f n).flatMap bitsOf = (List.range (8 * n)).map f
  | 0 => by simp [mask]
  | n + 1 => by
    have ih := mask_bits f n
    unfold mask at *
    rw [List.range_succ, List.map_append, List.flatMap_append, ih, show 8 * (n + 1) = 8 * n + 1 + 1 + 1 + 1 + 1 + 1 + 1 + 1 by omega]
    simp only [List.range_succ, List.map_append, List.map_cons, List.map_nil, List.append_assoc, List.flatMap_cons, List.flatMap_nil, List.append_nil]
    unfold bitsOf
    rw [byteOf_testBit f n 0 (by omega), byteOf_testBit f n 1 (by omega), byteOf_testBit f n 2 (by omega), byteOf_testBit f n 3 (by omega), byteOf_testBit f n 4 (by omega), byteOf_testBit f n 5 (by omega), byteOf_testBit f n 6 (by omega), byteOf_testBit f n 7 (by omega)]
    rfl

/-- The first m bits of pat, from bit a on. -/
def win (a m : Nat) (pat : Nat → Bool) (t : Nat) : Bool := decide (a ≤ t) && decide (t < a + m) && pat (t - a)
theorem win_list (a m : Nat) (pat : Nat → Bool) (N : Nat) (h : a + m ≤ N) :
    (List.range N).map (win a m pat) = List.replicate a false ++ (List.range m).map pat ++ List.replicate (N - a - m) false := by
  apply List.ext_getElem
  · simp; omega
  · intro i h1 h2
    simp only [List.length_map, List.length_range] at h1
    rw [List.getElem_map, List.getElem_range]
    unfold win
    by_cases c1 : i < a
    · rw [List.getElem_append_left (by simp; omega), List.getElem_append_left (by simp; omega)]
      have : ¬ a ≤ i := by omega
      simp [this]
    · by_cases c2 : i < a + m
      · rw [List.getElem_append_left (by simp; omega), List.getElem_append_right (by simp; omega)]
        have : a ≤ i := by omega
        simp [this, c2]
      · rw [List.getElem_append_right (by simp; omega)]
        simp [c2]

/-- The bytes S, the first i bits of pat changed, from bit a on. -/
def flips (S : List UInt8) (a i : Nat) (pat : Nat → Bool) : List UInt8 := xorL S (mask (win a i pat) S.length)
theorem flips_length (S : List UInt8) (a i : Nat) (pat : Nat → Bool) : (flips S a i pat).length = S.length := xorL_length (mask_length _ _).symm
theorem flips_get (S : List UInt8) (a i : Nat) (pat : Nat → Bool) (j : Nat) (h : j < S.length) : (flips S a i pat)[j]'(by rw [flips_length]; exact h) = S[j] ^^^ byteOf (win a i pat) j := by
  simp [flips, xorL, mask]
theorem flips_zero (S : List UInt8) (a : Nat) (pat : Nat → Bool) : flips S a 0 pat = S := by
  apply List.ext_getElem (flips_length _ _ _ _)
  intro j h1 h2
  rw [flips_get S a 0 pat j h2]
  have : byteOf (win a 0 pat) j = 0 := by
    apply byte_ext
    intro b hb
    rw [byteOf_testBit _ _ _ hb]
    unfold win
    have : ¬ (a ≤ 8 * j + b ∧ 8 * j + b < a) := by omega
    by_cases c : a ≤ 8 * j + b
    · have c2 : ¬ 8 * j + b < a := by omega
      simp [c2]
    · simp [c]
  rw [this]; simp
theorem win_succ (a i : Nat) (pat : Nat → Bool) (t : Nat) : win a (i + 1) pat t = (win a i pat t ^^ (decide (t = a + i) && pat i)) := by
  unfold win
  by_cases h : t = a + i
  · subst h
    have h1 : a + i - a = i := by omega
    simp [h1, show a + i < a + (i + 1) by omega]
  · by_cases c : t < a + i
    · simp [h, c, show t < a + (i + 1) by omega]
    · simp [h, c, show ¬ t < a + (i + 1) by omega]
theorem flips_skip (S : List UInt8) (a i : Nat) (pat : Nat → Bool) (h : pat i = false) : flips S a (i + 1) pat = flips S a i pat := by
  have : win a (i + 1) pat = win a i pat := by
    funext t
    rw [win_succ, h]; simp
  unfold flips; rw [this]
theorem flips_set (S : List UInt8) (a i : Nat) (pat : Nat → Bool) (h : pat i = true) (hk : (a + i) / 8 < S.length) (y : UInt8) (hy : (flips S a i pat)[(a + i) / 8]? = some y) :
    (flips S a i pat).set ((a + i) / 8) (y ^^^ UInt8.ofNat (2 ^ ((a + i) % 8))) = flips S a (i + 1) pat := by
  apply List.ext_getElem
  · rw [List.length_set, flips_length, flips_length]
  · intro j h1 h2
    have hj : j < S.length := by rw [flips_length] at h2; exact h2
    have hp : (2 : Nat) ^ ((a + i) % 8) < 256 := by
      have : (2 : Nat) ^ ((a + i) % 8) ≤ 2 ^ 7 := Nat.pow_le_pow_right (by omega) (by omega)
      omega
    have ht : (UInt8.ofNat (2 ^ ((a + i) % 8))).toNat = 2 ^ ((a + i) % 8) := by
      rw [UInt8.toNat_ofNat']; exact Nat.mod_eq_of_lt hp
    rw [flips_get S a (i + 1) pat j hj]
    by_cases e : (a + i) / 8 = j
    · subst e
      have hy' : y = S[(a + i) / 8] ^^^ byteOf (win a i pat) ((a + i) / 8) := by
        rw [List.getElem?_eq_getElem (by rw [flips_length]; exact hk), flips_get S a i pat _ hk] at hy
        exact (Option.some.inj hy).symm
      rw [List.getElem_set_self, hy', UInt8.xor_assoc]
      congr 1
      apply byte_ext
      intro b hb
      rw [UInt8.toNat_xor, Nat.testBit_xor, ht, Nat.testBit_two_pow, byteOf_testBit _ _ _ hb, byteOf_testBit _ _ _ hb, win_succ, h, Bool.and_true]
      congr 1
      by_cases c : (a + i) % 8 = b
      · simp [c]; omega
      · simp [c]; omega
    · rw [List.getElem_set_ne e, flips_get S a i pat j hj]
      congr 1
      apply byte_ext
      intro b hb
      rw [byteOf_testBit _ _ _ hb, byteOf_testBit _ _ _ hb, win_succ, h]
      have : ¬ 8 * j + b = a + i := by omega
      simp [this]

/-- Whether one of the first i bits is set. -/
def anyTo (pat : Nat → Bool) (i : Nat) : Bool := (List.range i).any pat
theorem anyTo_zero (pat : Nat → Bool) : anyTo pat 0 = false := rfl
theorem anyTo_yes (pat : Nat → Bool) (i : Nat) (h : pat i = true) : anyTo pat (i + 1) = true := by
  unfold anyTo; rw [List.range_succ, List.any_append]; simp [h]
theorem anyTo_no (pat : Nat → Bool) (i : Nat) (h : pat i = false) : anyTo pat (i + 1) = anyTo pat i := by
  unfold anyTo; rw [List.range_succ, List.any_append]; simp [h]

/-- A change of at most 32 consecutive bits changes the checksum. -/
theorem sum_flips (S : List UInt8) (a i : Nat) (pat : Nat → Bool) (h32 : i ≤ 32) (hN : a + i ≤ 8 * S.length) : sum (flips S a i pat) = sum S ↔ anyTo pat i = false := by
  unfold flips
  rw [sum_eq_iff _ _ (mask_length _ _).symm, reg_bits, mask_bits, win_list a i pat _ hN, regB_stretch _ _ _ (by simpa using h32)]
  unfold anyTo
  constructor
  · intro h
    rw [List.any_eq_false]
    intro x hx
    have := h (pat x) (List.mem_map_of_mem hx)
    simp [this]
  · intro h b hb
    obtain ⟨x, hx, rfl⟩ := List.mem_map.1 hb
    rw [List.any_eq_false] at h
    simpa using h x hx
end Go.Proofs.YtfiigjkcmnlddaaDoor.Crc
