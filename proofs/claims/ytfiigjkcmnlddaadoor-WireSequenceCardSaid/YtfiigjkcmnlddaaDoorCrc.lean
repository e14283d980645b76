/-
  The plain arithmetic of layer 1's checksum: the register by bits, by half bytes with the table, its linearity, and that 32 consecutive bits of a difference are never lost. No program is imported; there are no conditions.
-/
namespace Go.Proofs.YtfiigjkcmnlddaaDoor.Crc

/-- One shift of the register. -/
def step (r : BitVec 32) : BitVec 32 := (r >>> 1) ^^^ (if r.getLsbD 0 then 0x82F63B78#32 else 0#32)
def steps : Nat → BitVec 32 → BitVec 32
  | 0, r => r
  | k + 1, r => steps k (step r)
/-- The register behind one more byte. -/
def byteStep (r : BitVec 32) (b : UInt8) : BitVec 32 := steps 8 (r ^^^ BitVec.ofNat 32 b.toNat)
def reg (r : BitVec 32) (l : List UInt8) : BitVec 32 := l.foldl byteStep r
/-- The checksum. -/
def sum (l : List UInt8) : Nat := (~~~ (reg 0xFFFFFFFF#32 l)).toNat

/-! ### Linearity -/

theorem step_xor (a b : BitVec 32) : step (a ^^^ b) = step a ^^^ step b := by
  unfold step
  apply BitVec.eq_of_getLsbD_eq
  intro i hi
  simp only [BitVec.getLsbD_xor, BitVec.getLsbD_ushiftRight]
  cases a.getLsbD 0 <;> cases b.getLsbD 0 <;> simp <;> cases a.getLsbD (1 + i) <;> cases b.getLsbD (1 + i) <;> cases BitVec.getLsbD 0x82F63B78#32 i <;> rfl
theorem step_zero : step 0#32 = 0#32 := by decide
theorem steps_xor (k : Nat) : ∀ a b, steps k (a ^^^ b) = steps k a ^^^ steps k b := by
  induction k with
  | zero => intro a b; rfl
  | succ k ih => intro a b; simp only [steps, step_xor, ih]
theorem steps_zero (k : Nat) : steps k 0#32 = 0#32 := by
  induction k with
  | zero => rfl
  | succ k ih => simp only [steps, step_zero, ih]
theorem steps_add (j k : Nat) : ∀ r, steps (j + k) r = steps k (steps j r) := by
  induction j with
  | zero => intro r; simp [steps]
  | succ j ih => intro r; rw [Nat.succ_add]; simp only [steps, ih]

/-- The highest bit of the register tells which bit was shifted out: no two registers go to one. -/
theorem step_inj0 {a : BitVec 32} (h : step a = 0#32) : a = 0#32 := by
  have h31 : (step a).getLsbD 31 = false := by rw [h]; simp
  have h0 : a.getLsbD 0 = false := by
    unfold step at h31
    cases e : a.getLsbD 0 with
    | false => rfl
    | true => rw [e] at h31; simp at h31
  apply BitVec.eq_of_getLsbD_eq
  intro i hi
  cases i with
  | zero => rw [h0]; simp
  | succ i =>
    have hb : (step a).getLsbD i = false := by rw [h]; simp
    unfold step at hb
    rw [h0] at hb
    simp at hb
    rw [Nat.add_comm] at hb
    rw [hb]; simp
theorem steps_inj0 (k : Nat) : ∀ {a : BitVec 32}, steps k a = 0#32 → a = 0#32 := by
  induction k with
  | zero => intro a h; exact h
  | succ k ih => intro a h; exact step_inj0 (ih h)

theorem xor_self_eq {a b : BitVec 32} : a ^^^ b = 0#32 ↔ a = b := by
  constructor
  · intro h
    apply BitVec.eq_of_getLsbD_eq
    intro i hi
    have := congrArg (fun x => BitVec.getLsbD x i) h
    simp at this
    exact this
  · intro h; rw [h]; simp

/-! ### Four shifts by the table -/

def tab : List Nat := [0, 274646895, 549293790, 820201905, 1098587580, 1361435347, 1640403810, 1905808397, 2197175160, 2460548119, 2722870694, 2987750089, 3280807620, 3553878443, 3811616794, 4084100981]
theorem tab_lt : ∀ i : Fin 16, tab.getD i.val 0 < 4294967296 := by decide
theorem tab_steps : ∀ i : Fin 16, steps 4 (BitVec.ofNat 32 i.val) = BitVec.ofNat 32 (tab.getD i.val 0) := by decide +kernel

theorem step_even (x : BitVec 32) (h : x.getLsbD 0 = false) : step x = x >>> 1 := by
  unfold step; rw [h]; simp
theorem steps4_high (x : BitVec 32) : steps 4 ((x >>> 4) <<< 4) = x >>> 4 := by
  have e : ∀ (k j : Nat), j = k + 1 → k < 4 → step ((x >>> 4) <<< j) = (x >>> 4) <<< k := by
    intro k j hj hk
    rw [step_even]
    · apply BitVec.eq_of_getLsbD_eq
      intro i hi
      simp only [BitVec.getLsbD_ushiftRight, BitVec.getLsbD_shiftLeft]
      subst hj
      by_cases h1 : i < k
      · simp [h1]; omega
      · by_cases h2 : 1 + i < 32
        · have : 1 + i - (k + 1) = i - k := by omega
          have g1 : ¬ (1 + i < k + 1) := by omega
          simp [hi, h2, this, h1, g1]
        · have : x.getLsbD (4 + (i - k)) = false := BitVec.getLsbD_of_ge _ _ (by omega)
          simp [h2, this]
    · subst hj; simp
  simp only [steps]
  rw [e 3 4 rfl (by omega), e 2 3 rfl (by omega), e 1 2 rfl (by omega), e 0 1 rfl (by omega)]
  simp

theorem split16 (x : BitVec 32) : x = ((x >>> 4) <<< 4) ^^^ (x &&& 15#32) := by
  apply BitVec.eq_of_getLsbD_eq
  intro i hi
  have h15 : BitVec.getLsbD 15#32 i = decide (i < 4) := by
    have : ∀ i : Fin 32, BitVec.getLsbD 15#32 i.val = decide (i.val < 4) := by decide
    exact this ⟨i, hi⟩
  simp only [BitVec.getLsbD_xor, BitVec.getLsbD_shiftLeft, BitVec.getLsbD_ushiftRight, BitVec.getLsbD_and, h15]
  by_cases h : i < 4
  · simp [h]
  · have : 4 + (i - 4) = i := by omega
    simp [h, hi, this]

/-- A half byte by the table: in natural numbers, as the program has it. -/
theorem half (r : Nat) (hr : r < 4294967296) : r / 16 ^^^ tab.getD (r % 16) 0 = (steps 4 (BitVec.ofNat 32 r)).toNat := by
  have hx := split16 (BitVec.ofNat 32 r)
  have ht : (BitVec.ofNat 32 r).toNat = r := by rw [BitVec.toNat_ofNat]; exact Nat.mod_eq_of_lt (by omega)
  have ha : (BitVec.ofNat 32 r &&& 15#32) = BitVec.ofNat 32 (r % 16) := by
    apply BitVec.eq_of_toNat_eq
    rw [BitVec.toNat_and, ht, BitVec.toNat_ofNat, BitVec.toNat_ofNat]
    have h1 : r &&& 15 % 2 ^ 32 = r % 16 := Nat.and_two_pow_sub_one_eq_mod r 4
    rw [h1]; omega
  have h16 := tab_steps ⟨r % 16, by omega⟩
  have hl := tab_lt ⟨r % 16, by omega⟩
  simp only at h16 hl
  rw [hx, steps_xor, steps4_high, ha, h16, BitVec.toNat_xor, BitVec.toNat_ushiftRight, ht, BitVec.toNat_ofNat, Nat.mod_eq_of_lt (by omega : tab.getD (r % 16) 0 < 2 ^ 32), Nat.shiftRight_eq_div_pow]

theorem half_lt (r : Nat) (hr : r < 4294967296) : r / 16 ^^^ tab.getD (r % 16) 0 < 4294967296 := by
  rw [half r hr]; exact (steps 4 _).isLt

/-- The register behind a byte, by two half bytes. -/
theorem two_halves (r : BitVec 32) (b : UInt8) (x y : Nat) (hx : x = r.toNat ^^^ b.toNat) (hy : y = x / 16 ^^^ tab.getD (x % 16) 0) : y / 16 ^^^ tab.getD (y % 16) 0 = (byteStep r b).toNat := by
  have hb : b.toNat < 2 ^ 32 := by have := b.toNat_lt; omega
  have hxl : x < 4294967296 := by rw [hx]; exact Nat.xor_lt_two_pow (n := 32) r.isLt hb
  have hyl : y < 4294967296 := by rw [hy]; exact half_lt x hxl
  rw [half y hyl, hy, half x hxl]
  unfold byteStep
  have e : BitVec.ofNat 32 x = r ^^^ BitVec.ofNat 32 b.toNat := by
    apply BitVec.eq_of_toNat_eq
    rw [BitVec.toNat_ofNat, BitVec.toNat_xor, BitVec.toNat_ofNat, Nat.mod_eq_of_lt hb, ← hx]
    exact Nat.mod_eq_of_lt hxl
  rw [e, BitVec.ofNat_toNat]
  simp only [BitVec.setWidth_eq]
  rw [show (8 : Nat) = 4 + 4 from rfl, steps_add]

theorem reg_snoc (r : BitVec 32) (l : List UInt8) (b : UInt8) : reg r (l ++ [b]) = byteStep (reg r l) b := by
  unfold reg; rw [List.foldl_append]; rfl
theorem reg_nil (r : BitVec 32) : reg r [] = r := rfl

theorem sum_lt (l : List UInt8) : sum l < 4294967296 := (~~~ (reg 0xFFFFFFFF#32 l)).isLt
theorem sum_of (l : List UInt8) : sum l = 4294967295 - (reg 0xFFFFFFFF#32 l).toNat := by
  unfold sum; rw [BitVec.toNat_not]
end Go.Proofs.YtfiigjkcmnlddaaDoor.Crc
