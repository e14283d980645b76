/-
  The plain arithmetic of layer 1's encodings: the bytes of an integer, their decoder, and that each determines the other. No program is imported; there are no conditions.
-/
namespace Go.Proofs.YtnmjcjkjdbkpnaaDoor.Wa.Enc

/-- The groups of z as bytes, the least significant first; k + 1 groups are enough for z < 128 ^ (k + 1). -/
def encF : Nat → Nat → List UInt8
  | 0, z => [UInt8.ofNat z]
  | k + 1, z => if z < 128 then [UInt8.ofNat z] else UInt8.ofNat (z % 128 + 128) :: encF k (z / 128)
/-- The encoding of the number z < 2 ^ 63. -/
def enc (z : Nat) : List UInt8 := encF 8 z

/-- The number whose groups begin the list, how many they are, and the last of them; at most k groups. -/
def dec : Nat → List UInt8 → Option (Nat × Nat × UInt8)
  | 0, _ => none
  | _ + 1, [] => none
  | k + 1, b :: r => if b.toNat < 128 then some (b.toNat, 1, b) else (dec k r).map fun x => (b.toNat % 128 + 128 * x.1, x.2.1 + 1, x.2.2)

/-- What is an integer's encoding. -/
def decOK (l : List UInt8) : Option (Nat × Nat) :=
  match dec 9 l with
  | some (z, m, b) => if (b ≠ 0 ∨ m = 1) ∧ z ≤ 9223372036854775806 then some (z, m) else none
  | none => none

def zig (n : Int) : Nat := if n < 0 then (-2 * n - 1).toNat else (2 * n).toNat
def unzig (z : Nat) : Int := if z % 2 = 1 then -((z / 2 : Nat) : Int) - 1 else ((z / 2 : Nat) : Int)

theorem zig_unzig (z : Nat) : zig (unzig z) = z := by
  unfold zig unzig; split <;> split <;> omega
theorem unzig_zig (n : Int) : unzig (zig n) = n := by
  unfold zig unzig; split <;> split <;> omega
theorem zig_le {n : Int} (h1 : -4611686018427387903 ≤ n) (h2 : n ≤ 4611686018427387903) : zig n ≤ 9223372036854775806 := by
  unfold zig; split <;> omega
theorem unzig_range {z : Nat} (h : z ≤ 9223372036854775806) : -4611686018427387903 ≤ unzig z ∧ unzig z ≤ 4611686018427387903 := by
  unfold unzig; split <;> omega
theorem zig_gt {n : Int} (h : n < -4611686018427387903 ∨ 4611686018427387903 < n) : 9223372036854775806 < zig n := by
  unfold zig; split <;> omega

theorem toNat_small {z : Nat} (h : z < 256) : (UInt8.ofNat z).toNat = z := by
  simp [UInt8.toNat_ofNat']; omega

theorem encF_pos (k z : Nat) : 0 < (encF k z).length := by
  cases k <;> simp [encF]; split <;> simp
theorem encF_le (k : Nat) : ∀ z, (encF k z).length ≤ k + 1 := by
  induction k with
  | zero => intro z; simp [encF]
  | succ k ih => intro z; simp only [encF]; split <;> simp; exact ih _
theorem enc_pos (z : Nat) : 0 < (enc z).length := encF_pos 8 z
theorem enc_le (z : Nat) : (enc z).length ≤ 9 := encF_le 8 z

/-- The groups of z are decoded into z, whatever follows; the last one is not zero, or it is the only one. -/
theorem dec_encF (k : Nat) : ∀ z r, z < 128 ^ (k + 1) → ∃ b, dec (k + 1) (encF k z ++ r) = some (z, (encF k z).length, b) ∧ (b ≠ 0 ∨ (encF k z).length = 1) ∧ (b = 0 → z = 0) := by
  induction k with
  | zero =>
    intro z r hz
    have hz' : z < 128 := by simpa using hz
    refine ⟨UInt8.ofNat z, ?_, by simp [encF], ?_⟩
    · simp [encF, dec, toNat_small (show z < 256 by omega)]; omega
    · intro h
      have := congrArg UInt8.toNat h
      rw [toNat_small (by omega)] at this
      simpa using this
  | succ k ih =>
    intro z r hz
    by_cases h : z < 128
    · refine ⟨UInt8.ofNat z, ?_, by simp [encF, h], ?_⟩
      · simp [encF, h, dec, toNat_small (show z < 256 by omega)]
      · intro e
        have := congrArg UInt8.toNat e
        rw [toNat_small (by omega)] at this
        simpa using this
    · have hq : z / 128 < 128 ^ (k + 1) := by
        rw [Nat.pow_succ] at hz
        exact Nat.div_lt_of_lt_mul (by rw [Nat.mul_comm]; exact hz)
      obtain ⟨b, e, hb, hb0⟩ := ih (z / 128) r hq
      refine ⟨b, ?_, ?_, ?_⟩
      · have hn : (UInt8.ofNat (z % 128 + 128)).toNat = z % 128 + 128 := toNat_small (by omega)
        simp only [encF, if_neg h, List.cons_append, dec, hn, e, Option.map_some]
        rw [if_neg (by omega)]
        simp; omega
      · left
        intro h0
        have := hb0 h0
        omega
      · intro h0
        have := hb0 h0
        omega

/-- What is decoded was encoded: m groups, of which the last one is not zero, are the encoding of their number. -/
theorem encF_dec (k : Nat) : ∀ l z m b, dec (k + 1) l = some (z, m, b) → (b ≠ 0 ∨ m = 1) → z < 128 ^ (k + 1) ∧ 1 ≤ m ∧ (∃ r, l = encF k z ++ r) ∧ m = (encF k z).length ∧ (2 ≤ m → 128 ≤ z) ∧ (m = 1 → z = b.toNat) := by
  induction k with
  | zero =>
    intro l z m b h _
    match l with
    | [] => simp [dec] at h
    | c :: r =>
      simp only [dec] at h
      split at h
      · rename_i hc
        simp at h; obtain ⟨rfl, rfl, rfl⟩ := h
        refine ⟨by simpa using hc, Nat.le_refl _, ⟨r, by simp [encF]⟩, by simp [encF], by omega, fun _ => rfl⟩
      · simp at h
  | succ k ih =>
    intro l z m b h hb
    match l with
    | [] => simp [dec] at h
    | c :: r =>
      rw [dec] at h
      split at h
      · rename_i hc
        simp at h; obtain ⟨rfl, rfl, rfl⟩ := h
        have hp : 128 ≤ 128 ^ (k + 1 + 1) := by
          rw [Nat.pow_succ]
          have : 0 < 128 ^ (k + 1) := Nat.pow_pos (by omega)
          omega
        refine ⟨by omega, Nat.le_refl _, ⟨r, by simp [encF, hc]⟩, by simp [encF, hc], by omega, fun _ => rfl⟩
      · rename_i hc
        cases hd : dec (k + 1) r with
        | none => rw [hd] at h; simp at h
        | some x =>
          obtain ⟨v, n, b'⟩ := x
          rw [hd] at h
          simp at h
          obtain ⟨rfl, rfl, rfl⟩ := h
          have hb' : b' ≠ 0 ∨ n = 1 := by
            rcases hb with hb | hb
            · exact .inl hb
            · have := (dec_len (k + 1) r v n b' hd)
              omega
          obtain ⟨h1, h2, ⟨r', h3⟩, h4, h5, h6⟩ := ih r v n b' hd hb'
          have hv : 1 ≤ v := by
            by_cases hn : n = 1
            · rw [h6 hn]
              have hbn : b' ≠ 0 := by
                rcases hb with hb | hb
                · exact hb
                · omega
              have : b'.toNat ≠ 0 := fun e => hbn (UInt8.toNat_inj.1 (by simpa using e))
              omega
            · have := h5 (by omega); omega
          have hc8 : c.toNat < 256 := c.toNat_lt
          have hz : ¬ (c.toNat % 128 + 128 * v < 128) := by omega
          have hdiv : (c.toNat % 128 + 128 * v) / 128 = v := by omega
          have hmod : (c.toNat % 128 + 128 * v) % 128 + 128 = c.toNat := by omega
          have hcc : UInt8.ofNat c.toNat = c := by simp
          refine ⟨by rw [Nat.pow_succ]; omega, by omega, ⟨r', ?_⟩, ?_, fun _ => by omega, fun e => by omega⟩
          · simp only [encF, if_neg hz, hdiv, hmod, hcc, List.cons_append]; rw [← h3]
          · simp only [encF, if_neg hz, hdiv, hmod, hcc, List.length_cons]; omega
where
  dec_len (k : Nat) : ∀ (l : List UInt8) (z m : Nat) (b : UInt8), dec k l = some (z, m, b) → 1 ≤ m := by
    cases k with
    | zero => intro l z m b h; simp [dec] at h
    | succ k =>
      intro l z m b h
      match l with
      | [] => simp [dec] at h
      | c :: r =>
        rw [dec] at h
        split at h
        · simp at h; omega
        · cases hd : dec k r with
          | none => rw [hd] at h; simp at h
          | some x => rw [hd] at h; simp at h; omega

theorem pow9 : 128 ^ (8 + 1) = 9223372036854775808 := by decide

theorem decOK_enc {z : Nat} (h : z ≤ 9223372036854775806) (r : List UInt8) : decOK (enc z ++ r) = some (z, (enc z).length) := by
  obtain ⟨b, e, hb, _⟩ := dec_encF 8 z r (by rw [pow9]; omega)
  unfold decOK enc
  rw [e]
  simp only
  rw [if_pos ⟨hb, h⟩]

theorem enc_decOK {l : List UInt8} {z m : Nat} (h : decOK l = some (z, m)) : z ≤ 9223372036854775806 ∧ m = (enc z).length ∧ ∃ r, l = enc z ++ r := by
  unfold decOK at h
  split at h
  · rename_i z' m' b e
    split at h
    · rename_i hc
      simp at h; obtain ⟨rfl, rfl⟩ := h
      obtain ⟨_, _, h3, h4, _, _⟩ := encF_dec 8 l _ _ _ e hc.1
      exact ⟨hc.2, h4, h3⟩
    · simp at h
  · simp at h

/-- No proper beginning of an encoding is one. -/
theorem decOK_short {z : Nat} (h : z ≤ 9223372036854775806) {j : Nat} (hj : j < (enc z).length) : decOK ((enc z).take j) = none := by
  cases e : decOK ((enc z).take j) with
  | none => rfl
  | some x =>
    obtain ⟨z', m'⟩ := x
    obtain ⟨hz, hm, r, hr⟩ := enc_decOK e
    have h1 := decOK_enc h []
    have h2 : enc z ++ [] = enc z' ++ (r ++ (enc z).drop j) := by
      rw [← List.append_assoc, ← hr, List.take_append_drop, List.append_nil]
    rw [h2, decOK_enc hz] at h1
    simp at h1
    obtain ⟨rfl, _⟩ := h1
    have := congrArg List.length hr
    simp at this
    omega
theorem decOK_nil : decOK [] = none := rfl

/-- An encoding begins another one only if they are the same. -/
theorem enc_prefix {z z' : Nat} (h : z ≤ 9223372036854775806) (h' : z' ≤ 9223372036854775806) (hp : enc z <+: enc z') : z = z' := by
  obtain ⟨r, hr⟩ := hp
  have h1 := decOK_enc h' []
  rw [List.append_nil, ← hr, decOK_enc h] at h1
  simp at h1
  exact h1.1

/-! ### Int and String, as the chapter says them: value, next offset, error -/

def putErr (n : Int) : Int := if n < -4611686018427387903 ∨ 4611686018427387903 < n then 10 else 0
def putBytes (n : Int) : List UInt8 := if n < -4611686018427387903 ∨ 4611686018427387903 < n then [] else enc (zig n)

def intV (l : List UInt8) (at' : Int) : Int × Int × Int :=
  if at' < 0 ∨ (l.length : Int) < at' then (0, 0, 2) else
  match decOK (l.drop at'.toNat) with
  | some (z, m) => (unzig z, at' + m, 0)
  | none => (0, 0, 10)

def pstrErr (l : List UInt8) : Int := if 65536 < l.length then 10 else 0
def pstrBytes (l : List UInt8) : List UInt8 := if 65536 < l.length then [] else enc (zig l.length) ++ l

def strV (l : List UInt8) (at' : Int) : List UInt8 × Int × Int :=
  match intV l at' with
  | (n, start, e) =>
    if e ≠ 0 then ([], 0, e) else
    if n < 0 ∨ 65536 < n ∨ (l.length : Int) - start < n then ([], 0, 10) else
    ((l.drop start.toNat).take n.toNat, start + n, 0)

theorem putErr_in {n : Int} (h1 : -4611686018427387903 ≤ n) (h2 : n ≤ 4611686018427387903) : putErr n = 0 := by unfold putErr; rw [if_neg (by omega)]
theorem putBytes_in {n : Int} (h1 : -4611686018427387903 ≤ n) (h2 : n ≤ 4611686018427387903) : putBytes n = enc (zig n) := by unfold putBytes; rw [if_neg (by omega)]

/-- The encoding of an integer is read wherever it stands. -/
theorem intV_put {n : Int} (h1 : -4611686018427387903 ≤ n) (h2 : n ≤ 4611686018427387903) (p r : List UInt8) :
    intV (p ++ (enc (zig n) ++ r)) p.length = (n, (p.length : Int) + (enc (zig n)).length, 0) := by
  unfold intV
  rw [if_neg (by simp; omega)]
  simp only [Int.toNat_natCast, List.drop_left, decOK_enc (zig_le h1 h2), unzig_zig]

theorem zig_nat (n : Nat) : zig (n : Int) = 2 * n := by unfold zig; split <;> omega

theorem strV_put {t : List UInt8} (h : t.length ≤ 65536) (p r : List UInt8) :
    strV (p ++ ((enc (zig t.length) ++ t) ++ r)) p.length = (t, (p.length : Int) + (enc (zig t.length) ++ t).length, 0) := by
  unfold strV
  rw [show p ++ ((enc (zig t.length) ++ t) ++ r) = p ++ (enc (zig t.length) ++ (t ++ r)) by simp, intV_put (by omega) (by omega)]
  simp only
  rw [if_neg (by simp), if_neg (by simp; omega)]
  have e : ((p.length : Int) + (enc (zig t.length)).length).toNat = p.length + (enc (zig t.length)).length := by omega
  rw [e, show p ++ (enc (zig t.length) ++ (t ++ r)) = (p ++ enc (zig t.length)) ++ (t ++ r) by simp, show p.length + (enc (zig t.length)).length = (p ++ enc (zig t.length)).length by simp, List.drop_left]
  simp; omega

/-- What Int accepts is what PutInt gives. -/
theorem intV_ok {l : List UInt8} {k n next : Int} (h : intV l k = (n, next, 0)) :
    0 ≤ k ∧ k ≤ l.length ∧ -4611686018427387903 ≤ n ∧ n ≤ 4611686018427387903 ∧ k ≤ next ∧ next ≤ l.length ∧ next = k + (enc (zig n)).length ∧ ∃ r, l.drop k.toNat = enc (zig n) ++ r := by
  unfold intV at h
  split at h
  · simp at h
  · rename_i hk
    split at h
    · rename_i z m e
      simp at h
      obtain ⟨rfl, rfl⟩ := h
      obtain ⟨hz, hm, r, hr⟩ := enc_decOK e
      obtain ⟨g1, g2⟩ := unzig_range hz
      rw [zig_unzig]
      have hl := congrArg List.length hr
      simp at hl
      exact ⟨by omega, by omega, g1, g2, by omega, by omega, by omega, r, hr⟩
    · simp at h

theorem intV_no {l : List UInt8} {k n next e : Int} (h : intV l k = (n, next, e)) (he : e ≠ 0) (h0 : 0 ≤ k) (h1 : k ≤ l.length) : n = 0 ∧ next = 0 ∧ e = 10 := by
  unfold intV at h
  rw [if_neg (by omega)] at h
  split at h
  · simp at h; omega
  · simp at h; omega

theorem intV_bd {l : List UInt8} {k n next e : Int} (h : intV l k = (n, next, e)) : -4611686018427387903 ≤ n ∧ n ≤ 4611686018427387903 ∧ 0 ≤ next ∧ next ≤ l.length ∧ 0 ≤ e ∧ e ≤ 10 := by
  by_cases he : e = 0
  · subst he
    obtain ⟨a, b, c, d, f, g, _⟩ := intV_ok h
    exact ⟨c, d, by omega, g, by omega, by omega⟩
  · unfold intV at h
    split at h
    · simp at h; omega
    · split at h <;> simp at h <;> omega

/-- What String accepts is what PutString gives. -/
theorem strV_ok {l v : List UInt8} {k fin : Int} (h : strV l k = (v, fin, 0)) :
    0 ≤ k ∧ k ≤ l.length ∧ v.length ≤ 65536 ∧ k ≤ fin ∧ fin ≤ l.length ∧ (l.drop k.toNat).take (fin.toNat - k.toNat) = enc (zig v.length) ++ v := by
  unfold strV at h
  split at h
  rename_i n start e hi
  split at h
  · simp at h; omega
  · rename_i he
    obtain rfl : e = 0 := by omega
    split at h
    · simp at h
    · rename_i hn
      simp at h
      obtain ⟨rfl, rfl⟩ := h
      obtain ⟨g1, g2, g3, g4, g5, g6, g7, r, hr⟩ := intV_ok hi
      have hs : start.toNat = k.toNat + (enc (zig n)).length := by omega
      have hd : l.drop start.toNat = r := by
        rw [hs, ← List.drop_drop, hr, List.drop_left]
      have hl := congrArg List.length hr
      simp at hl
      have hrl : n.toNat ≤ r.length := by omega
      rw [hd]
      have hlen : (r.take n.toNat).length = n.toNat := by simp; omega
      have hc : ((n.toNat : Nat) : Int) = n := by omega
      refine ⟨g1, g2, by rw [hlen]; omega, by omega, by omega, ?_⟩
      rw [hlen, hc, hr, show (start + n).toNat - k.toNat = (enc (zig n)).length + n.toNat by omega, List.take_length_add_append]

theorem strV_no {l v : List UInt8} {k x e : Int} (h : strV l k = (v, x, e)) (he : e ≠ 0) (h0 : 0 ≤ k) (h1 : k ≤ l.length) : v = [] ∧ x = 0 ∧ e = 10 := by
  unfold strV at h
  split at h
  rename_i n start e' hi
  split at h
  · rename_i he'
    simp at h
    obtain ⟨rfl, rfl, rfl⟩ := h
    exact ⟨rfl, rfl, (intV_no hi he' h0 h1).2.2⟩
  · split at h
    · simp at h
      obtain ⟨rfl, rfl, rfl⟩ := h
      exact ⟨rfl, rfl, rfl⟩
    · simp at h; omega

end Go.Proofs.YtnmjcjkjdbkpnaaDoor.Wa.Enc

