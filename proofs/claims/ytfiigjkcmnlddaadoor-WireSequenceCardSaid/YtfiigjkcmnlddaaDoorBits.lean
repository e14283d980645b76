/-
  The plain arithmetic of WireSumAffine and WireSumBurst: the register is linear; a difference of at most 32 consecutive bits leaves another register. No program is imported; there are no conditions.
-/
import Derived.Test.YtfiigjkcmnlddaaDoorCrc
namespace Go.Proofs.YtfiigjkcmnlddaaDoor.Crc

theorem ofNat_xor (a b : UInt8) : BitVec.ofNat 32 (a ^^^ b).toNat = BitVec.ofNat 32 a.toNat ^^^ BitVec.ofNat 32 b.toNat := by
  apply BitVec.eq_of_getLsbD_eq
  intro i hi
  simp [hi, UInt8.toNat_xor]
theorem byteStep_xor (r d : BitVec 32) (x e : UInt8) : byteStep (r ^^^ d) (x ^^^ e) = byteStep r x ^^^ byteStep d e := by
  unfold byteStep
  rw [← steps_xor, ofNat_xor]
  congr 1
  ac_rfl
theorem byteStep_zero : byteStep 0#32 0 = 0#32 := by decide

/-- Two strings of one length, XORed byte by byte. -/
def xorL (a b : List UInt8) : List UInt8 := List.zipWith (fun x y => x ^^^ y) a b
theorem reg_xor : ∀ (l m : List UInt8) (r d : BitVec 32), l.length = m.length → reg (r ^^^ d) (xorL l m) = reg r l ^^^ reg d m
  | [], [], r, d, _ => rfl
  | [], _ :: _, _, _, h => by simp at h
  | _ :: _, [], _, _, h => by simp at h
  | x :: l, y :: m, r, d, h => by
    have ih := reg_xor l m (byteStep r x) (byteStep d y) (by simpa using h)
    unfold reg xorL at *
    simp only [List.zipWith_cons_cons, List.foldl_cons, byteStep_xor]
    exact ih
theorem xorL_length {l m : List UInt8} (h : l.length = m.length) : (xorL l m).length = l.length := by
  unfold xorL; simp; omega

/-- The checksum is affine. -/
theorem sum_affine (a b c : List UInt8) (h1 : a.length = b.length) (h2 : a.length = c.length) : sum (xorL (xorL a b) c) = sum a ^^^ sum b ^^^ sum c := by
  have e := reg_xor (xorL a b) c (0xFFFFFFFF#32 ^^^ 0xFFFFFFFF#32) 0xFFFFFFFF#32 (by rw [xorL_length h1]; exact h2)
  rw [reg_xor a b _ _ h1] at e
  have hi : (0xFFFFFFFF#32 ^^^ 0xFFFFFFFF#32) ^^^ 0xFFFFFFFF#32 = 0xFFFFFFFF#32 := by decide
  rw [hi] at e
  unfold sum
  rw [e, ← BitVec.toNat_xor, ← BitVec.toNat_xor]
  congr 1
  apply BitVec.eq_of_getLsbD_eq
  intro i hi
  simp [hi]

/-! ### By bits -/

def bit (b : Bool) : BitVec 32 := if b then 1#32 else 0#32
def bstep (r : BitVec 32) (b : Bool) : BitVec 32 := step (r ^^^ bit b)
def regB (r : BitVec 32) (p : List Bool) : BitVec 32 := p.foldl bstep r
/-- The bits of a byte, the least significant one first. -/
def bitsOf (x : UInt8) : List Bool := [x.toNat.testBit 0, x.toNat.testBit 1, x.toNat.testBit 2, x.toNat.testBit 3, x.toNat.testBit 4, x.toNat.testBit 5, x.toNat.testBit 6, x.toNat.testBit 7]

theorem bitsOf_reg0 : ∀ n : Fin 256, regB 0#32 (bitsOf (UInt8.ofNat n.val)) = byteStep 0#32 (UInt8.ofNat n.val) := by decide +kernel
theorem bit_xor (a b : Bool) : bit (a ^^ b) = bit a ^^^ bit b := by cases a <;> cases b <;> decide
theorem bstep_xor (r d : BitVec 32) (a b : Bool) : bstep (r ^^^ d) (a ^^ b) = bstep r a ^^^ bstep d b := by
  unfold bstep
  rw [← step_xor, bit_xor]
  congr 1
  ac_rfl
theorem regB_zeros (k : Nat) : ∀ r, regB r (List.replicate k false) = steps k r := by
  induction k with
  | zero => intro r; rfl
  | succ k ih =>
    intro r
    rw [List.replicate_succ]
    show regB (bstep r false) (List.replicate k false) = _
    rw [ih]
    unfold bstep bit
    simp [steps]
theorem regB_byte (r : BitVec 32) (x : UInt8) : regB r (bitsOf x) = byteStep r x := by
  have h0 := bitsOf_reg0 ⟨x.toNat, x.toNat_lt⟩
  simp only [UInt8.ofNat_toNat] at h0
  have hz := regB_zeros 8 r
  have e1 : regB r (bitsOf x) = regB r (List.replicate 8 false) ^^^ regB 0#32 (bitsOf x) := by
    show bstep (bstep (bstep (bstep (bstep (bstep (bstep (bstep r _) _) _) _) _) _) _) _ = bstep (bstep (bstep (bstep (bstep (bstep (bstep (bstep r false) false) false) false) false) false) false) false ^^^ bstep (bstep (bstep (bstep (bstep (bstep (bstep (bstep 0#32 _) _) _) _) _) _) _) _
    simp only [← bstep_xor, Bool.false_xor, BitVec.xor_zero]
  have e2 : byteStep r x = byteStep r 0 ^^^ byteStep 0#32 x := by
    rw [← byteStep_xor]; simp
  rw [e1, hz, h0, e2]
  congr 1
  unfold byteStep
  simp
theorem reg_bits : ∀ (l : List UInt8) (r : BitVec 32), reg r l = regB r (l.flatMap bitsOf)
  | [], r => rfl
  | x :: l, r => by
    rw [List.flatMap_cons]
    show reg (byteStep r x) l = regB r (bitsOf x ++ l.flatMap bitsOf)
    rw [reg_bits l, ← regB_byte]
    unfold regB; rw [List.foldl_append]

/-- The word whose bits these are, the least significant one first. -/
def word : List Bool → BitVec 32
  | [] => 0#32
  | b :: q => bit b ^^^ (word q <<< 1)
theorem bit_getLsbD (b : Bool) (i : Nat) : (bit b).getLsbD i = (decide (i = 0) && b) := by
  unfold bit
  cases b
  · simp
  · simp only [if_true, Bool.and_true]
    cases i with
    | zero => decide
    | succ i =>
      rw [BitVec.getLsbD_ofNat, Nat.testBit_lt_two_pow (Nat.one_lt_two_pow (by omega))]
      simp
theorem word_getLsbD : ∀ (p : List Bool) (i : Nat), i < 32 → (word p).getLsbD i = p.getD i false
  | [], i, _ => by simp [word]
  | b :: q, i, hi => by
    unfold word
    rw [BitVec.getLsbD_xor, bit_getLsbD, BitVec.getLsbD_shiftLeft]
    cases i with
    | zero => simp
    | succ i =>
      have ih := word_getLsbD q i (by omega)
      simp [hi, ih]
theorem word_zero {p : List Bool} (h : p.length ≤ 32) : word p = 0#32 ↔ ∀ b ∈ p, b = false := by
  constructor
  · intro e b hb
    obtain ⟨i, hi, rfl⟩ := List.getElem_of_mem hb
    have := word_getLsbD p i (by omega)
    rw [e] at this
    simpa [List.getD, hi] using this.symm
  · intro e
    apply BitVec.eq_of_getLsbD_eq
    intro i hi
    rw [word_getLsbD p i hi]
    by_cases h' : i < p.length
    · simp [List.getD, h', e p[i] (List.getElem_mem h')]
    · simp [List.getD, h']
theorem step_word (q : List Bool) (h : q.length ≤ 31) : step (word q <<< 1) = word q := by
  rw [step_even _ (by simp)]
  apply BitVec.eq_of_getLsbD_eq
  intro i hi
  rw [BitVec.getLsbD_ushiftRight, BitVec.getLsbD_shiftLeft]
  by_cases h31 : i = 31
  · subst h31
    have := word_getLsbD q 31 (by omega)
    rw [this]
    simp [List.getD, h]
  · have : 1 + i < 32 := by omega
    simp [this]
theorem regB_word : ∀ (p : List Bool) (r : BitVec 32), p.length ≤ 32 → regB r p = steps p.length (r ^^^ word p)
  | [], r, _ => by simp [regB, word, steps]
  | b :: q, r, h => by
    have hq : q.length ≤ 31 := by simpa using h
    show regB (bstep r b) q = _
    rw [regB_word q _ (by omega)]
    simp only [List.length_cons, steps]
    congr 1
    have hw : word (b :: q) = bit b ^^^ (word q <<< 1) := rfl
    unfold bstep
    rw [hw, ← BitVec.xor_assoc, step_xor (r ^^^ bit b), step_word q hq]

/-- A stretch of at most 32 bits among zeros is lost exactly if all of them are zero. -/
theorem regB_stretch (a c : Nat) (p : List Bool) (h : p.length ≤ 32) : regB 0#32 (List.replicate a false ++ p ++ List.replicate c false) = 0#32 ↔ ∀ b ∈ p, b = false := by
  have e : regB 0#32 (List.replicate a false ++ p ++ List.replicate c false) = steps c (steps p.length (word p)) := by
    have e1 : regB 0#32 (List.replicate a false ++ p ++ List.replicate c false) = regB (regB (regB 0#32 (List.replicate a false)) p) (List.replicate c false) := by
      unfold regB; rw [List.foldl_append, List.foldl_append]
    rw [e1, regB_zeros, regB_zeros, steps_zero, regB_word p _ h]
    simp
  rw [e, ← word_zero h]
  constructor
  · intro h0; exact steps_inj0 _ (steps_inj0 _ h0)
  · intro h0; rw [h0, steps_zero, steps_zero]

/-- Two strings of one length have one checksum exactly if the register is 0 behind their difference. -/
theorem sum_eq_iff (l m : List UInt8) (h : l.length = m.length) : sum (xorL l m) = sum l ↔ reg 0#32 m = 0#32 := by
  have e := reg_xor l m 0xFFFFFFFF#32 0#32 h
  rw [BitVec.xor_zero] at e
  unfold sum
  rw [e]
  constructor
  · intro h1
    have h2 := BitVec.eq_of_toNat_eq h1
    have h3 : reg 0xFFFFFFFF#32 l ^^^ reg 0#32 m = reg 0xFFFFFFFF#32 l := by
      have h4 := congrArg (fun x => ~~~ x) h2
      simp only [BitVec.not_not] at h4
      exact h4
    have h5 := congrArg (fun x => reg 0xFFFFFFFF#32 l ^^^ x) h3
    simp only [← BitVec.xor_assoc, BitVec.xor_self, BitVec.zero_xor] at h5
    exact h5
  · intro h1; rw [h1, BitVec.xor_zero]

end Go.Proofs.YtfiigjkcmnlddaaDoor.Crc
