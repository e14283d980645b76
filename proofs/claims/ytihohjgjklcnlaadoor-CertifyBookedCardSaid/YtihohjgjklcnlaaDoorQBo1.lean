/-
  Trees of digests over any function from strings to strings of 32 bytes: roots, proofs and extensions are accepted, are short, and bind. No program is spoken of. Condition: the function's answers have 32 bytes, where a theorem says so.
  The digest of a string as chapter 2 defines it (words of 32 bits), its length, and its values at the chapter's examples. No program is spoken of. No condition.
  Words of 32 bits as values of uint32, and what Go's operations on them come to, with no condition.
  The contracts of the package's rotate and of bits.RotateLeft32.
  The contract of the package's mix. Condition: the table of 64 words reads as the program's text lays it.
-/
import Derived.Test.YtihohjgjklcnlaaDoorChecked
import Derived.KernelRfl
import Derived.WalkKit
import Derived.OwnWalk
import Derived.Outline
import Derived.Lib.Hide
import Derived.Laws.Bits64
import Derived.Deep.QuietTactic
import Derived.BigQuiet
import Derived.LoopTactic
import Derived.RegionTactic
import Derived.BigRegion
import Derived.Deep.WholeRow
import Derived.Laws.CopyOwn
namespace Go.Proofs.YtihohjgjklcnlaaDoor.Wb.Tree

section lefts
/-- The greatest power of two that is less than n, for n of at least 2. -/
def leftN (n : Nat) : Nat := 2 ^ (n - 1).log2
theorem leftN_pos (n : Nat) : 0 < leftN n := Nat.two_pow_pos _
theorem leftN_lt {n : Nat} (h : 2 ≤ n) : leftN n < n := by
  have := Nat.log2_self_le (n := n - 1) (by omega)
  unfold leftN; omega
theorem leftN_le {n : Nat} (h : 2 ≤ n) : n ≤ 2 * leftN n := by
  have := Nat.lt_log2_self (n := n - 1)
  unfold leftN; rw [Nat.pow_succ] at this; omega
/-- A power of two that lies so is it. -/
theorem leftN_is {n j : Nat} (h1 : 2 ^ j < n) (h2 : n ≤ 2 * 2 ^ j) : leftN n = 2 ^ j := by
  have : (n - 1).log2 = j := (Nat.log2_eq_iff (by omega)).2 ⟨by omega, by rw [Nat.pow_succ]; omega⟩
  unfold leftN
  rw [this]
end lefts

variable (H : ByteArray → ByteArray)

def leafS (s : ByteArray) : ByteArray := H (⟨#[0]⟩ ++ s)
def nodeS (a b : ByteArray) : ByteArray := H (⟨#[1]⟩ ++ a ++ b)
def chainS (h r : ByteArray) : ByteArray := H (⟨#[2]⟩ ++ h ++ r)

theorem append_inj {a b x y : ByteArray} (h : a ++ x = b ++ y) (hs : x.size = y.size) : a = b ∧ x = y := by
  have h' := congrArg (fun t : ByteArray => t.data.toList) h
  simp only [ByteArray.data_append, Array.toList_append] at h'
  obtain ⟨h1, h2⟩ := List.append_inj' h' (by simpa using hs)
  exact ⟨ByteArray.ext (Array.toList_inj.1 h1), ByteArray.ext (Array.toList_inj.1 h2)⟩
theorem append_inj_left {a b x y : ByteArray} (h : a ++ x = b ++ y) (hs : a.size = b.size) : a = b ∧ x = y := by
  have h' := congrArg (fun t : ByteArray => t.data.toList) h
  simp only [ByteArray.data_append, Array.toList_append] at h'
  obtain ⟨h1, h2⟩ := List.append_inj h' (by simpa using hs)
  exact ⟨ByteArray.ext (Array.toList_inj.1 h1), ByteArray.ext (Array.toList_inj.1 h2)⟩
/-- A byte and two strings, the second ones of one length. -/
theorem three_inj {c a b x y : ByteArray} (h : c ++ a ++ x = c ++ b ++ y) (hs : x.size = y.size) : a = b ∧ x = y := by
  obtain ⟨h1, h2⟩ := append_inj h hs
  exact ⟨(append_inj_left h1 rfl).2, h2⟩
/-- A byte and two strings, the first ones of one length. -/
theorem three_inj_left {c a b x y : ByteArray} (h : c ++ a ++ x = c ++ b ++ y) (hs : a.size = b.size) : a = b ∧ x = y := by
  obtain ⟨h1, h2⟩ := append_inj_left h (by rw [ByteArray.size_append, ByteArray.size_append, hs])
  exact ⟨(append_inj_left h1 rfl).2, h2⟩

/-! ### Roots, proofs, extensions -/

def rootS (l : List ByteArray) : ByteArray :=
  if _h : l.length ≤ 1 then (match l with | [] => H ⟨#[]⟩ | x :: _ => leafS H x)
  else nodeS H (rootS (l.take (leftN l.length))) (rootS (l.drop (leftN l.length)))
termination_by l.length
decreasing_by
  · have := leftN_lt (n := l.length) (by omega); rw [List.length_take]; omega
  · have := leftN_pos l.length; rw [List.length_drop]; omega

theorem rootS_nil : rootS H [] = H ⟨#[]⟩ := by rw [rootS]; simp
theorem rootS_one (x : ByteArray) : rootS H [x] = leafS H x := by rw [rootS]; simp
theorem rootS_two {l : List ByteArray} (h : 2 ≤ l.length) : rootS H l = nodeS H (rootS H (l.take (leftN l.length))) (rootS H (l.drop (leftN l.length))) := by
  rw [rootS, dif_neg (by omega)]
theorem rootS_size (hH : ∀ s, (H s).size = 32) (l : List ByteArray) : (rootS H l).size = 32 := by
  by_cases h : 2 ≤ l.length
  · rw [rootS_two H h]; exact hH _
  · match l, h with
    | [], _ => rw [rootS_nil]; exact hH _
    | [x], _ => rw [rootS_one]; exact hH _
    | _ :: _ :: _, h => simp at h

def proofS (l : List ByteArray) (i : Nat) : List ByteArray :=
  if _h : l.length ≤ 1 then []
  else if i < leftN l.length then proofS (l.take (leftN l.length)) i ++ [rootS H (l.drop (leftN l.length))]
  else proofS (l.drop (leftN l.length)) (i - leftN l.length) ++ [rootS H (l.take (leftN l.length))]
termination_by l.length
decreasing_by
  · have := leftN_lt (n := l.length) (by omega); rw [List.length_take]; omega
  · have := leftN_pos l.length; rw [List.length_drop]; omega

theorem proofS_one {l : List ByteArray} {i : Nat} (h : l.length ≤ 1) : proofS H l i = [] := by rw [proofS, dif_pos h]
theorem proofS_low {l : List ByteArray} {i : Nat} (h : 2 ≤ l.length) (hi : i < leftN l.length) : proofS H l i = proofS H (l.take (leftN l.length)) i ++ [rootS H (l.drop (leftN l.length))] := by
  rw [proofS, dif_neg (by omega), if_pos hi]
theorem proofS_high {l : List ByteArray} {i : Nat} (h : 2 ≤ l.length) (hi : ¬ i < leftN l.length) : proofS H l i = proofS H (l.drop (leftN l.length)) (i - leftN l.length) ++ [rootS H (l.take (leftN l.length))] := by
  rw [proofS, dif_neg (by omega), if_neg hi]

def partS (l : List ByteArray) (m : Nat) (whole : Bool) : List ByteArray :=
  if _h : l.length ≤ m ∨ l.length ≤ 1 then (if whole then [] else [rootS H l])
  else if m ≤ leftN l.length then partS (l.take (leftN l.length)) m whole ++ [rootS H (l.drop (leftN l.length))]
  else partS (l.drop (leftN l.length)) (m - leftN l.length) false ++ [rootS H (l.take (leftN l.length))]
termination_by l.length
decreasing_by
  · have := leftN_lt (n := l.length) (by omega); rw [List.length_take]; omega
  · have := leftN_pos l.length; rw [List.length_drop]; omega

theorem partS_all {l : List ByteArray} {m : Nat} {whole : Bool} (h : l.length ≤ m) : partS H l m whole = if whole then [] else [rootS H l] := by rw [partS, dif_pos (.inl h)]
theorem partS_low {l : List ByteArray} {m : Nat} {whole : Bool} (h1 : 1 ≤ m) (h2 : m < l.length) (hm : m ≤ leftN l.length) : partS H l m whole = partS H (l.take (leftN l.length)) m whole ++ [rootS H (l.drop (leftN l.length))] := by
  rw [partS, dif_neg (by omega), if_pos hm]
theorem partS_high {l : List ByteArray} {m : Nat} {whole : Bool} (h1 : 1 ≤ m) (h2 : m < l.length) (hm : ¬ m ≤ leftN l.length) : partS H l m whole = partS H (l.drop (leftN l.length)) (m - leftN l.length) false ++ [rootS H (l.take (leftN l.length))] := by
  rw [partS, dif_neg (by omega), if_neg hm]

def extS (l : List ByteArray) (m : Nat) : List ByteArray := if m = 0 then [] else partS H l m true

/-! ### Values of proofs, the last element first -/

def valueR (s : ByteArray) : Nat → Nat → List ByteArray → Option ByteArray
  | n, _, [] => if n ≤ 1 then some (leafS H s) else none
  | n, i, x :: r => if n ≤ 1 then none else
      if i < leftN n then (valueR s (leftN n) i r).map fun v => nodeS H v x
      else (valueR s (n - leftN n) (i - leftN n) r).map fun v => nodeS H x v

/-- How many elements a proof of place i of n has. -/
def depthR : Nat → Nat → List ByteArray → Bool
  | n, _, [] => decide (n ≤ 1)
  | n, i, _ :: r => if n ≤ 1 then false else if i < leftN n then depthR (leftN n) i r else depthR (n - leftN n) (i - leftN n) r
theorem valueR_depth (s : ByteArray) : ∀ (r : List ByteArray) (n i : Nat), (valueR H s n i r).isSome = depthR n i r
  | [], n, i => by unfold valueR depthR; by_cases h : n ≤ 1 <;> simp [h]
  | x :: r, n, i => by
    unfold valueR depthR
    by_cases h : n ≤ 1
    · simp [h]
    · by_cases hi : i < leftN n
      · simp [h, hi, valueR_depth s r]
      · simp [h, hi, valueR_depth s r]
/-- Two lists that are right proofs of one place have the same length. -/
theorem depth_len : ∀ (r q : List ByteArray) (n i : Nat), depthR n i r = true → depthR n i q = true → r.length = q.length
  | [], [], _, _, _, _ => rfl
  | [], _ :: _, n, i, h1, h2 => by unfold depthR at h1 h2; simp at h1; simp [h1] at h2
  | _ :: _, [], n, i, h1, h2 => by unfold depthR at h1 h2; simp at h2; simp [h2] at h1
  | _ :: r, _ :: q, n, i, h1, h2 => by
    unfold depthR at h1 h2
    by_cases h : n ≤ 1
    · simp [h] at h1
    · by_cases hi : i < leftN n
      · rw [if_neg h, if_pos hi] at h1 h2
        simp [depth_len r q _ _ h1 h2]
      · rw [if_neg h, if_neg hi] at h1 h2
        simp [depth_len r q _ _ h1 h2]

/-- The proof of an entry gives the root. -/
theorem proof_value (s : ByteArray) : ∀ (b : Nat) (l : List ByteArray) (i : Nat), l.length ≤ b → l[i]? = some s → valueR H s l.length i (proofS H l i).reverse = some (rootS H l)
  | 0, l, i, hb, hi => by have := (List.getElem?_eq_some_iff.1 hi).1; omega
  | b + 1, l, i, hb, hi => by
    have hil := (List.getElem?_eq_some_iff.1 hi).1
    by_cases h : 2 ≤ l.length
    · have h1 := leftN_lt h
      have h2 := leftN_pos l.length
      have ht : (l.take (leftN l.length)).length = leftN l.length := by rw [List.length_take]; omega
      have hd : (l.drop (leftN l.length)).length = l.length - leftN l.length := List.length_drop
      by_cases hl : i < leftN l.length
      · rw [proofS_low H h hl, List.reverse_append, List.reverse_singleton, List.singleton_append, valueR, if_neg (by omega), if_pos hl]
        have := proof_value s b (l.take (leftN l.length)) i (by omega) (by rw [List.getElem?_take_of_lt hl]; exact hi)
        rw [ht] at this
        rw [this, Option.map_some, rootS_two H h]
      · rw [proofS_high H h hl, List.reverse_append, List.reverse_singleton, List.singleton_append, valueR, if_neg (by omega), if_neg hl]
        have := proof_value s b (l.drop (leftN l.length)) (i - leftN l.length) (by omega) (by rw [List.getElem?_drop, ← hi]; congr 1; omega)
        rw [hd] at this
        rw [this, Option.map_some, rootS_two H h]
    · match l, h, hi, hil with
      | [x], _, hi, hil =>
        obtain rfl : i = 0 := by simpa using hil
        obtain rfl : x = s := by simpa using hi
        rw [proofS_one H (by simp), rootS_one]; rfl
      | _ :: _ :: _, h, _, _ => simp at h
theorem proof_sizes (hH : ∀ s, (H s).size = 32) : ∀ (b : Nat) (l : List ByteArray) (i : Nat), l.length ≤ b → ∀ x ∈ proofS H l i, x.size = 32
  | 0, l, i, hb, x, hx => by rw [proofS_one H (by omega)] at hx; simp at hx
  | b + 1, l, i, hb, x, hx => by
    by_cases h : 2 ≤ l.length
    · have h1 := leftN_lt h
      have h2 := leftN_pos l.length
      by_cases hl : i < leftN l.length
      · rw [proofS_low H h hl, List.mem_append, List.mem_singleton] at hx
        rcases hx with hx | rfl
        · exact proof_sizes hH b _ i (by rw [List.length_take]; omega) x hx
        · exact rootS_size H hH _
      · rw [proofS_high H h hl, List.mem_append, List.mem_singleton] at hx
        rcases hx with hx | rfl
        · exact proof_sizes hH b _ _ (by rw [List.length_drop]; omega) x hx
        · exact rootS_size H hH _
    · rw [proofS_one H (by omega)] at hx; simp at hx
/-- A proof has at most e elements where there are at most 2 ^ e entries. -/
theorem proof_len : ∀ (e : Nat) (l : List ByteArray) (i : Nat), l.length ≤ 2 ^ e → (proofS H l i).length ≤ e
  | 0, l, i, hb => by rw [proofS_one H (by simpa using hb)]; simp
  | e + 1, l, i, hb => by
    by_cases h : 2 ≤ l.length
    · have h1 := leftN_lt h
      have h2 := leftN_pos l.length
      have h3 := leftN_le h
      have hp : leftN l.length ≤ 2 ^ e := by
        have : leftN l.length = 2 ^ (l.length - 1).log2 := rfl
        rw [this]
        refine Nat.pow_le_pow_right (by omega) ?_
        have h4 : 2 ^ (l.length - 1).log2 < 2 ^ (e + 1) := by rw [← this]; omega
        have := (Nat.pow_lt_pow_iff_right (by omega : 1 < 2)).1 h4
        omega
      rw [Nat.pow_succ] at hb
      by_cases hl : i < leftN l.length
      · rw [proofS_low H h hl, List.length_append]
        have := proof_len e (l.take (leftN l.length)) i (by rw [List.length_take]; omega)
        simp; omega
      · rw [proofS_high H h hl, List.length_append]
        have := proof_len e (l.drop (leftN l.length)) (i - leftN l.length) (by rw [List.length_drop]; omega)
        simp; omega
    · rw [proofS_one H (by omega)]; simp

/-! ### The two values of extensions, the last element first -/

def bothR (old : ByteArray) : Nat → Nat → Bool → List ByteArray → Option (ByteArray × ByteArray)
  | m, n, whole, [] => if m = n ∧ whole = true then some (old, old) else none
  | m, n, whole, x :: r => if m = n then (if whole = false ∧ r = [] then some (x, x) else none) else
      if m ≤ leftN n then (bothR old m (leftN n) whole r).map fun p => (p.1, nodeS H p.2 x)
      else (bothR old (m - leftN n) (n - leftN n) false r).map fun p => (nodeS H x p.1, nodeS H x p.2)

/-- A part that begins with the whole list's beginning gives both roots. -/
theorem part_both (old : ByteArray) : ∀ (b : Nat) (l : List ByteArray) (m : Nat) (whole : Bool), l.length ≤ b → 1 ≤ m → m ≤ l.length → (whole = true → old = rootS H (l.take m)) →
    bothR H old m l.length whole (partS H l m whole).reverse = some (rootS H (l.take m), rootS H l)
  | 0, l, m, whole, hb, h1, hm, ho => by omega
  | b + 1, l, m, whole, hb, h1, hm, ho => by
    by_cases he : m = l.length
    · subst he
      rw [partS_all H (Nat.le_refl _), List.take_length] at *
      cases whole with
      | true => simp [bothR, ho rfl]
      | false => simp [bothR]
    · have h : 2 ≤ l.length := by omega
      have l1 := leftN_lt h
      have l2 := leftN_pos l.length
      have ht : (l.take (leftN l.length)).length = leftN l.length := by rw [List.length_take]; omega
      have hd : (l.drop (leftN l.length)).length = l.length - leftN l.length := List.length_drop
      by_cases hl : m ≤ leftN l.length
      · rw [partS_low H h1 (by omega) hl, List.reverse_append, List.reverse_singleton, List.singleton_append, bothR, if_neg he, if_pos hl]
        have e : (l.take (leftN l.length)).take m = l.take m := by rw [List.take_take, Nat.min_eq_left hl]
        have := part_both old b (l.take (leftN l.length)) m whole (by omega) h1 (by omega) (by rw [e]; exact ho)
        rw [ht, e] at this
        rw [this, Option.map_some, rootS_two H h]
      · rw [partS_high H h1 (by omega) hl, List.reverse_append, List.reverse_singleton, List.singleton_append, bothR, if_neg he, if_neg hl]
        have := part_both old b (l.drop (leftN l.length)) (m - leftN l.length) false (by omega) (by omega) (by omega) (by intro h; cases h)
        rw [hd] at this
        rw [this, Option.map_some, rootS_two H h]
        have hk : (l.take m).length = m := by rw [List.length_take]; omega
        have l3 := leftN_le h
        have hm2 : leftN (l.take m).length = leftN l.length := by
          rw [hk]; exact leftN_is (by show leftN l.length < m; omega) (by show m ≤ 2 * leftN l.length; omega)
        rw [rootS_two H (l := l.take m) (by omega), hm2, List.take_take, Nat.min_eq_left (by omega), List.drop_take]
theorem part_sizes (hH : ∀ s, (H s).size = 32) : ∀ (b : Nat) (l : List ByteArray) (m : Nat) (whole : Bool), l.length ≤ b → ∀ x ∈ partS H l m whole, x.size = 32
  | b, l, m, whole, hb, x, hx => by
    by_cases h : l.length ≤ m ∨ l.length ≤ 1
    · rw [partS, dif_pos h] at hx
      cases whole with
      | true => simp at hx
      | false => simp at hx; rw [hx]; exact rootS_size H hH _
    · cases b with
      | zero => omega
      | succ b =>
        have h1 := leftN_lt (n := l.length) (by omega)
        have h2 := leftN_pos l.length
        rw [partS, dif_neg h] at hx
        by_cases hl : m ≤ leftN l.length
        · rw [if_pos hl, List.mem_append, List.mem_singleton] at hx
          rcases hx with hx | rfl
          · exact part_sizes hH b _ _ _ (by rw [List.length_take]; omega) x hx
          · exact rootS_size H hH _
        · rw [if_neg hl, List.mem_append, List.mem_singleton] at hx
          rcases hx with hx | rfl
          · exact part_sizes hH b _ _ _ (by rw [List.length_drop]; omega) x hx
          · exact rootS_size H hH _
/-- A part has at most e + 1 elements where there are at most 2 ^ e entries. -/
theorem part_len : ∀ (e : Nat) (l : List ByteArray) (m : Nat) (whole : Bool), l.length ≤ 2 ^ e → (partS H l m whole).length ≤ e + 1
  | e, l, m, whole, hb => by
    by_cases h : l.length ≤ m ∨ l.length ≤ 1
    · rw [partS, dif_pos h]; cases whole <;> simp
    · cases e with
      | zero => simp at hb; omega
      | succ e =>
        have h1 := leftN_lt (n := l.length) (by omega)
        have h2 := leftN_pos l.length
        have h3 := leftN_le (n := l.length) (by omega)
        have hp : leftN l.length ≤ 2 ^ e := by
          have : leftN l.length = 2 ^ (l.length - 1).log2 := rfl
          rw [this]
          refine Nat.pow_le_pow_right (by omega) ?_
          have h4 : 2 ^ (l.length - 1).log2 < 2 ^ (e + 1) := by rw [← this]; omega
          have := (Nat.pow_lt_pow_iff_right (by omega : 1 < 2)).1 h4
          omega
        rw [Nat.pow_succ] at hb
        rw [partS, dif_neg h]
        by_cases hl : m ≤ leftN l.length
        · rw [if_pos hl, List.length_append]
          have := part_len e (l.take (leftN l.length)) m whole (by rw [List.length_take]; omega)
          simp; omega
        · rw [if_neg hl, List.length_append]
          have := part_len e (l.drop (leftN l.length)) (m - leftN l.length) false (by rw [List.length_drop]; omega)
          simp; omega

/-! ### Binding -/

/-- Two different strings with one digest at one place of two lists. -/
def Clash (a b : List ByteArray) : Prop := ∃ (i : Nat) (x y : ByteArray), a[i]? = some x ∧ b[i]? = some y ∧ x ≠ y ∧ H x = H y
theorem Clash.cons {a b : List ByteArray} {x y : ByteArray} (h : Clash H a b) : Clash H (x :: a) (y :: b) := by
  obtain ⟨i, u, v, h1, h2, h3, h4⟩ := h
  exact ⟨i + 1, u, v, by simpa using h1, by simpa using h2, h3, h4⟩
theorem Clash.head {a b : List ByteArray} {x y : ByteArray} (h1 : x ≠ y) (h2 : H x = H y) : Clash H (x :: a) (y :: b) := ⟨0, x, y, rfl, rfl, h1, h2⟩

/-- The strings of a proof's digests, from the root on, and the value. -/
def wayR (s : ByteArray) : Nat → Nat → List ByteArray → List ByteArray × ByteArray
  | _, _, [] => ([⟨#[0]⟩ ++ s], leafS H s)
  | n, i, x :: r => if n ≤ 1 then ([⟨#[0]⟩ ++ s], leafS H s) else
      if i < leftN n then ((⟨#[1]⟩ ++ (wayR s (leftN n) i r).2 ++ x) :: (wayR s (leftN n) i r).1, nodeS H (wayR s (leftN n) i r).2 x)
      else ((⟨#[1]⟩ ++ x ++ (wayR s (n - leftN n) (i - leftN n) r).2) :: (wayR s (n - leftN n) (i - leftN n) r).1, nodeS H x (wayR s (n - leftN n) (i - leftN n) r).2)
theorem way_value (s : ByteArray) : ∀ (r : List ByteArray) (n i : Nat) (v : ByteArray), valueR H s n i r = some v → (wayR H s n i r).2 = v
  | [], n, i, v, h => by unfold valueR at h; unfold wayR; by_cases hn : n ≤ 1 <;> simp_all
  | x :: r, n, i, v, h => by
    unfold valueR at h; unfold wayR
    by_cases hn : n ≤ 1
    · simp [hn] at h
    · by_cases hi : i < leftN n
      · simp only [hn, hi, if_true, if_false, Option.map_eq_some_iff] at h ⊢
        obtain ⟨u, hu, rfl⟩ := h
        rw [way_value s r _ _ u hu]
      · simp only [hn, hi, if_false, Option.map_eq_some_iff] at h ⊢
        obtain ⟨u, hu, rfl⟩ := h
        rw [way_value s r _ _ u hu]
theorem binding (s t : ByteArray) (hst : s ≠ t) : ∀ (r q : List ByteArray) (n i : Nat) (v : ByteArray), (∀ x ∈ r, x.size = 32) → (∀ x ∈ q, x.size = 32) →
    valueR H s n i r = some v → valueR H t n i q = some v → Clash H (wayR H s n i r).1 (wayR H t n i q).1
  | [], [], n, i, v, hr, hq, h1, h2 => by
    unfold valueR at h1 h2; unfold wayR
    by_cases hn : n ≤ 1
    · simp [hn] at h1 h2
      exact Clash.head H (fun e => hst (append_inj_left e rfl).2) (h1.trans h2.symm)
    · simp [hn] at h1
  | [], _ :: _, n, i, v, hr, hq, h1, h2 => by
    unfold valueR at h1 h2
    by_cases hn : n ≤ 1
    · simp [hn] at h2
    · simp [hn] at h1
  | _ :: _, [], n, i, v, hr, hq, h1, h2 => by
    unfold valueR at h1 h2
    by_cases hn : n ≤ 1
    · simp [hn] at h1
    · simp [hn] at h2
  | x :: r, y :: q, n, i, v, hr, hq, h1, h2 => by
    have hxy : x.size = y.size := by rw [hr x (by simp), hq y (by simp)]
    have hr' : ∀ x ∈ r, x.size = 32 := fun z hz => hr z (by simp [hz])
    have hq' : ∀ x ∈ q, x.size = 32 := fun z hz => hq z (by simp [hz])
    unfold valueR at h1 h2
    unfold wayR
    by_cases hn : n ≤ 1
    · simp [hn] at h1
    · by_cases hi : i < leftN n
      · simp only [hn, hi, if_true, if_false, Option.map_eq_some_iff] at h1 h2 ⊢
        obtain ⟨u, hu, e1⟩ := h1
        obtain ⟨u', hu', e2⟩ := h2
        rw [way_value H s r _ _ u hu, way_value H t q _ _ u' hu']
        by_cases hc : (⟨#[1]⟩ ++ u ++ x : ByteArray) = ⟨#[1]⟩ ++ u' ++ y
        · obtain ⟨rfl, rfl⟩ := three_inj hc hxy
          exact Clash.cons H (binding s t hst r q _ _ u hr' hq' hu hu')
        · exact Clash.head H hc (by unfold nodeS at e1 e2; rw [e1, e2])
      · simp only [hn, hi, if_false, Option.map_eq_some_iff] at h1 h2 ⊢
        obtain ⟨u, hu, e1⟩ := h1
        obtain ⟨u', hu', e2⟩ := h2
        rw [way_value H s r _ _ u hu, way_value H t q _ _ u' hu']
        by_cases hc : (⟨#[1]⟩ ++ x ++ u : ByteArray) = ⟨#[1]⟩ ++ y ++ u'
        · obtain ⟨rfl, rfl⟩ := three_inj_left hc hxy
          exact Clash.cons H (binding s t hst r q _ _ u hr' hq' hu hu')
        · exact Clash.head H hc (by unfold nodeS at e1 e2; rw [e1, e2])

/-- The strings of an extension's digests, from the root on, and the value. -/
def sidesR (old : ByteArray) : Nat → Nat → Bool → List ByteArray → List ByteArray × ByteArray
  | _, _, _, [] => ([], old)
  | m, n, whole, x :: r => if n ≤ m then (if whole then ([], old) else ([], (x :: r).getLast (by simp))) else
      if m ≤ leftN n then ((⟨#[1]⟩ ++ (sidesR old m (leftN n) whole r).2 ++ x) :: (sidesR old m (leftN n) whole r).1, nodeS H (sidesR old m (leftN n) whole r).2 x)
      else ((⟨#[1]⟩ ++ x ++ (sidesR old (m - leftN n) (n - leftN n) false r).2) :: (sidesR old (m - leftN n) (n - leftN n) false r).1, nodeS H x (sidesR old (m - leftN n) (n - leftN n) false r).2)
theorem sidesR_low (old x : ByteArray) (r : List ByteArray) {m n : Nat} {whole : Bool} (h : m < n) (hl : m ≤ leftN n) : sidesR H old m n whole (x :: r) = ((⟨#[1]⟩ ++ (sidesR H old m (leftN n) whole r).2 ++ x) :: (sidesR H old m (leftN n) whole r).1, nodeS H (sidesR H old m (leftN n) whole r).2 x) := by
  rw [sidesR, if_neg (by omega), if_pos hl]
theorem sidesR_high (old x : ByteArray) (r : List ByteArray) {m n : Nat} {whole : Bool} (h : m < n) (hl : ¬ m ≤ leftN n) : sidesR H old m n whole (x :: r) = ((⟨#[1]⟩ ++ x ++ (sidesR H old (m - leftN n) (n - leftN n) false r).2) :: (sidesR H old (m - leftN n) (n - leftN n) false r).1, nodeS H x (sidesR H old (m - leftN n) (n - leftN n) false r).2) := by
  rw [sidesR, if_neg (by omega), if_neg hl]
theorem sides_value (old : ByteArray) : ∀ (r : List ByteArray) (m n : Nat) (whole : Bool) (p : ByteArray × ByteArray), m ≤ n → bothR H old m n whole r = some p → (sidesR H old m n whole r).2 = p.2
  | [], m, n, whole, p, hm, h => by
    unfold bothR at h; unfold sidesR
    by_cases hc : m = n ∧ whole = true
    · simp [hc] at h; simp [← h]
    · simp [hc] at h
  | x :: r, m, n, whole, p, hm, h => by
    unfold bothR at h; unfold sidesR
    by_cases hn : m = n
    · by_cases hc : whole = false ∧ r = []
      · obtain ⟨rfl, rfl⟩ := hc
        simp [hn] at h; simp [hn, ← h]
      · simp [hn, hc] at h
    · by_cases hl : m ≤ leftN n
      · simp only [hn, hl, if_true, if_false, Option.map_eq_some_iff] at h
        obtain ⟨u, hu, rfl⟩ := h
        rw [if_neg (by omega), if_pos hl, sides_value old r _ _ _ u hl hu]
      · simp only [hn, hl, if_false, Option.map_eq_some_iff] at h
        obtain ⟨u, hu, rfl⟩ := h
        rw [if_neg (by omega), if_neg hl, sides_value old r _ _ _ u (by omega) hu]
theorem ext_binding (a b : ByteArray) : ∀ (r q : List ByteArray) (m n : Nat) (whole : Bool) (f g v : ByteArray), m ≤ n → (whole = true → m < n ∨ a = b) → (∀ x ∈ r, x.size = 32) → (∀ x ∈ q, x.size = 32) →
    bothR H a m n whole r = some (f, v) → bothR H b m n whole q = some (g, v) → f = g ∨ Clash H (sidesR H a m n whole r).1 (sidesR H b m n whole q).1
  | [], [], m, n, whole, f, g, v, hm, hw, hr, hq, h1, h2 => by
    unfold bothR at h1 h2
    by_cases hc : m = n ∧ whole = true
    · simp [hc] at h1 h2; exact .inl (by rw [← h1.1, h1.2, ← h2.2, h2.1])
    · simp [hc] at h1
  | [], y :: q, m, n, whole, f, g, v, hm, hw, hr, hq, h1, h2 => by
    unfold bothR at h1 h2
    by_cases hc : m = n ∧ whole = true
    · simp [hc] at h2
    · simp [hc] at h1
  | x :: r, [], m, n, whole, f, g, v, hm, hw, hr, hq, h1, h2 => by
    unfold bothR at h1 h2
    by_cases hc : m = n ∧ whole = true
    · simp [hc] at h1
    · simp [hc] at h2
  | x :: r, y :: q, m, n, whole, f, g, v, hm, hw, hr, hq, h1, h2 => by
    have hxy : x.size = y.size := by rw [hr x (by simp), hq y (by simp)]
    have hr' : ∀ x ∈ r, x.size = 32 := fun z hz => hr z (by simp [hz])
    have hq' : ∀ x ∈ q, x.size = 32 := fun z hz => hq z (by simp [hz])
    unfold bothR at h1 h2
    by_cases hn : m = n
    · simp only [hn, if_true] at h1 h2
      by_cases hc : whole = false ∧ r = []
      · by_cases hd : whole = false ∧ q = []
        · simp only [hc, hd, and_self, if_true, Option.some.injEq, Prod.mk.injEq] at h1 h2
          exact .inl (by rw [← h1.1, h1.2, ← h2.2, h2.1])
        · simp [hd] at h2
      · simp [hc] at h1
    · by_cases hl : m ≤ leftN n
      · simp only [hn, hl, if_true, if_false, Option.map_eq_some_iff, Prod.mk.injEq] at h1 h2
        obtain ⟨⟨u1, u2⟩, hu, rfl, e1⟩ := h1
        obtain ⟨⟨w1, w2⟩, hv, rfl, e2⟩ := h2
        have s1 := sides_value H a r _ _ _ _ hl hu
        have s2 := sides_value H b q _ _ _ _ hl hv
        rw [sidesR_low H a x r (by omega) hl, sidesR_low H b y q (by omega) hl, s1, s2]
        by_cases hc : (⟨#[1]⟩ ++ u2 ++ x : ByteArray) = ⟨#[1]⟩ ++ w2 ++ y
        · obtain ⟨rfl, rfl⟩ := three_inj hc hxy
          rcases ext_binding a b r q m (leftN n) whole u1 w1 u2 hl (fun h => by
            rcases hw h with h | h
            · by_cases he : m = leftN n
              · subst he
                have hwt := h
                subst whole
                cases r with
                | nil =>
                  cases q with
                  | nil => exact .inr (by
                      unfold bothR at hu hv
                      simp at hu hv
                      rw [hu.2, hv.2])
                  | cons _ _ => unfold bothR at hv; simp at hv
                | cons _ _ => unfold bothR at hu; simp at hu
              · exact .inl (by omega)
            · exact .inr h) hr' hq' hu hv with h | h
          · exact .inl h
          · exact .inr (Clash.cons H h)
        · exact .inr (Clash.head H hc (by unfold nodeS at e1 e2; rw [e1, e2]))
      · simp only [hn, hl, if_false, Option.map_eq_some_iff, Prod.mk.injEq] at h1 h2
        obtain ⟨⟨u1, u2⟩, hu, rfl, e1⟩ := h1
        obtain ⟨⟨w1, w2⟩, hv, rfl, e2⟩ := h2
        have s1 := sides_value H a r _ _ _ _ (by omega) hu
        have s2 := sides_value H b q _ _ _ _ (by omega) hv
        rw [sidesR_high H a x r (by omega) hl, sidesR_high H b y q (by omega) hl, s1, s2]
        by_cases hc : (⟨#[1]⟩ ++ x ++ u2 : ByteArray) = ⟨#[1]⟩ ++ y ++ w2
        · obtain ⟨rfl, rfl⟩ := three_inj_left hc hxy
          rcases ext_binding a b r q (m - leftN n) (n - leftN n) false u1 w1 u2 (by omega) (by intro h; cases h) hr' hq' hu hv with rfl | h
          · exact .inl rfl
          · exact .inr (Clash.cons H h)
        · exact .inr (Clash.head H hc (by unfold nodeS at e1 e2; rw [e1, e2]))

/-! ### Chains -/

def zeros : ByteArray := ⟨#[0, 0, 0, 0, 0, 0, 0, 0, 0, 0, 0, 0, 0, 0, 0, 0, 0, 0, 0, 0, 0, 0, 0, 0, 0, 0, 0, 0, 0, 0, 0, 0]⟩
/-- The head of a list of records, the last one first. -/
def headR : List ByteArray → ByteArray
  | [] => zeros
  | x :: r => chainS H (headR r) x
/-- The strings of its digests, the last one first. -/
def headsR : List ByteArray → List ByteArray
  | [] => []
  | x :: r => (⟨#[2]⟩ ++ headR H r ++ x) :: headsR r
theorem headR_size (hH : ∀ s, (H s).size = 32) : ∀ r, (headR H r).size = 32
  | [] => rfl
  | _ :: _ => hH _
theorem headsR_length : ∀ r, (headsR H r).length = r.length
  | [] => rfl
  | _ :: r => by simp [headsR, headsR_length r]
theorem chain_binding (hH : ∀ s, (H s).size = 32) : ∀ (r q : List ByteArray), r ≠ q → headR H r = headR H q →
    Clash H (headsR H r) (headsR H q) ∨ (r.length < q.length ∧ ∃ x, (headsR H q)[r.length]? = some x ∧ H x = zeros) ∨ (q.length < r.length ∧ ∃ x, (headsR H r)[q.length]? = some x ∧ H x = zeros)
  | [], [], h, _ => absurd rfl h
  | [], y :: q, _, h => .inr (.inl ⟨by simp, _, rfl, h.symm⟩)
  | x :: r, [], _, h => .inr (.inr ⟨by simp, _, rfl, h⟩)
  | x :: r, y :: q, hne, h => by
    by_cases hc : (⟨#[2]⟩ ++ headR H r ++ x : ByteArray) = ⟨#[2]⟩ ++ headR H q ++ y
    · obtain ⟨h1, rfl⟩ := three_inj_left hc (by rw [headR_size H hH, headR_size H hH])
      rcases chain_binding hH r q (fun e => hne (by rw [e])) h1 with h | ⟨hl, z, hz, e⟩ | ⟨hl, z, hz, e⟩
      · exact .inl (Clash.cons H h)
      · exact .inr (.inl ⟨by simpa using hl, z, by simpa [headsR] using hz, e⟩)
      · exact .inr (.inr ⟨by simpa using hl, z, by simpa [headsR] using hz, e⟩)
    · exact .inl (Clash.head H hc h)
end Go.Proofs.YtihohjgjklcnlaaDoor.Wb.Tree

namespace Go.Proofs.YtihohjgjklcnlaaDoor.Wb

/-- A word of 32 bits. -/
abbrev Wd : Type := BitVec 32
/-- A word rotated right. -/
def rotW (x : Wd) (n : Nat) : Wd := x >>> n ||| x <<< (32 - n)
/-- A byte as a word. -/
def bw (b : UInt8) : Wd := BitVec.ofNat 32 b.toNat

namespace Sha

def KN : List Nat := [1116352408, 1899447441, 3049323471, 3921009573, 961987163, 1508970993, 2453635748, 2870763221, 3624381080, 310598401, 607225278, 1426881987, 1925078388, 2162078206, 2614888103, 3248222580, 3835390401, 4022224774, 264347078, 604807628, 770255983, 1249150122, 1555081692, 1996064986, 2554220882, 2821834349, 2952996808, 3210313671, 3336571891, 3584528711, 113926993, 338241895, 666307205, 773529912, 1294757372, 1396182291, 1695183700, 1986661051, 2177026350, 2456956037, 2730485921, 2820302411, 3259730800, 3345764771, 3516065817, 3600352804, 4094571909, 275423344, 430227734, 506948616, 659060556, 883997877, 958139571, 1322822218, 1537002063, 1747873779, 1955562222, 2024104815, 2227730452, 2361852424, 2428436474, 2756734187, 3204031479, 3329325298]
def K : List Wd := KN.map (BitVec.ofNat 32)
theorem K_length : K.length = 64 := rfl

def s0 (x : Wd) : Wd := rotW x 7 ^^^ rotW x 18 ^^^ x >>> 3
def s1 (x : Wd) : Wd := rotW x 17 ^^^ rotW x 19 ^^^ x >>> 10
def S0 (x : Wd) : Wd := rotW x 2 ^^^ rotW x 13 ^^^ rotW x 22
def S1 (x : Wd) : Wd := rotW x 6 ^^^ rotW x 11 ^^^ rotW x 25
def ch (e f g : Wd) : Wd := (e &&& f) ^^^ (~~~e &&& g)
def maj (a b c : Wd) : Wd := (a &&& b) ^^^ (a &&& c) ^^^ (b &&& c)

/-- The word behind the words so far. -/
def nextW (ws : List Wd) : Wd := ws.getD (ws.length - 16) 0 + s0 (ws.getD (ws.length - 15) 0) + ws.getD (ws.length - 7) 0 + s1 (ws.getD (ws.length - 2) 0)
/-- m words more. -/
def moreW : Nat → List Wd → List Wd
  | 0, ws => ws
  | m + 1, ws => moreW m ws ++ [nextW (moreW m ws)]
theorem moreW_length : ∀ (m : Nat) (ws : List Wd), (moreW m ws).length = ws.length + m
  | 0, _ => rfl
  | m + 1, ws => by rw [moreW, List.length_append, moreW_length m ws]; rfl

structure St where
  a : Wd
  b : Wd
  c : Wd
  d : Wd
  e : Wd
  f : Wd
  g : Wd
  h : Wd
def St.list (s : St) : List Wd := [s.a, s.b, s.c, s.d, s.e, s.f, s.g, s.h]
def tW (s : St) (k w : Wd) : Wd := s.h + S1 s.e + ch s.e s.f s.g + k + w
def uW (s : St) : Wd := S0 s.a + maj s.a s.b s.c
def rnd (s : St) (k w : Wd) : St := ⟨tW s k w + uW s, s.a, s.b, s.c, s.d + tW s k w, s.e, s.f, s.g⟩
/-- The state behind the first i rounds. -/
def rounds (ws : List Wd) (s : St) : Nat → St
  | 0 => s
  | i + 1 => rnd (rounds ws s i) (K.getD i 0) (ws.getD i 0)
def plus (s t : St) : St := ⟨s.a + t.a, s.b + t.b, s.c + t.c, s.d + t.d, s.e + t.e, s.f + t.f, s.g + t.g, s.h + t.h⟩

/-- A word of four bytes, the highest one first. -/
def be (p : List UInt8) (i : Nat) : Wd := bw (p.getD i 0) <<< 24 ||| bw (p.getD (i + 1) 0) <<< 16 ||| bw (p.getD (i + 2) 0) <<< 8 ||| bw (p.getD (i + 3) 0)
/-- The first m words of a block. -/
def firstW (p : List UInt8) : Nat → List Wd
  | 0 => []
  | m + 1 => firstW p m ++ [be p (4 * m)]
theorem firstW_length (p : List UInt8) : ∀ m, (firstW p m).length = m
  | 0 => rfl
  | m + 1 => by rw [firstW, List.length_append, firstW_length p m]; rfl
def sched (p : List UInt8) : List Wd := moreW 48 (firstW p 16)
theorem sched_length (p : List UInt8) : (sched p).length = 64 := by unfold sched; rw [moreW_length, firstW_length]
def block (p : List UInt8) (s : St) : St := plus s (rounds (sched p) s 64)
def init : St := ⟨1779033703, 3144134277, 1013904242, 2773480762, 1359893119, 2600822924, 528734635, 1541459225⟩
/-- Block j of a string. -/
def blk (p : List UInt8) (j : Nat) : List UInt8 := (p.drop (64 * j)).take 64
/-- The words behind the first j blocks. -/
def after (p : List UInt8) : Nat → St
  | 0 => init
  | j + 1 => block (blk p j) (after p j)

/-- The bytes that are added to n bytes. -/
def padZ (n : Nat) : Nat := (119 - n % 64) % 64
def padB (n : Nat) : List UInt8 := 128 :: List.replicate (padZ n) 0 ++ [7, 6, 5, 4, 3, 2, 1, 0].map fun i => UInt8.ofNat (8 * n / 2 ^ (8 * i))
def pad (l : List UInt8) : List UInt8 := l ++ padB l.length
theorem padB_length (n : Nat) : (padB n).length = padZ n + 9 := by
  simp [padB]
theorem pad_length (l : List UInt8) : (pad l).length = l.length + padZ l.length + 9 := by
  simp [pad, padB]; omega
theorem pad_whole (l : List UInt8) : (pad l).length = 64 * ((pad l).length / 64) := by
  rw [pad_length]; unfold padZ; omega
def beBytes (x : Wd) : List UInt8 := [UInt8.ofNat (x >>> 24).toNat, UInt8.ofNat (x >>> 16).toNat, UInt8.ofNat (x >>> 8).toNat, UInt8.ofNat x.toNat]
def outB (s : St) : List UInt8 := s.list.flatMap beBytes
theorem outB_length (s : St) : (outB s).length = 32 := rfl
def digest (l : List UInt8) : List UInt8 := outB (after (pad l) ((pad l).length / 64))
/-- The digest of a string. -/
def shaS (s : ByteArray) : ByteArray := ⟨(digest s.data.toList).toArray⟩
theorem shaS_size (s : ByteArray) : (shaS s).size = 32 := by
  show (digest s.data.toList).toArray.size = 32
  rw [List.size_toArray]; exact outB_length _

theorem sha_empty : digest [] = [227, 176, 196, 66, 152, 252, 28, 20, 154, 251, 244, 200, 153, 111, 185, 36, 39, 174, 65, 228, 100, 155, 147, 76, 164, 149, 153, 27, 120, 82, 184, 85] := by kernel_rfl
theorem sha_abc : digest [97, 98, 99] = [186, 120, 22, 191, 143, 1, 207, 234, 65, 65, 64, 222, 93, 174, 34, 35, 176, 3, 97, 163, 150, 23, 122, 156, 180, 16, 255, 97, 242, 0, 21, 173] := by kernel_rfl
end Sha
end Go.Proofs.YtihohjgjklcnlaaDoor.Wb

namespace Go.Proofs.YtihohjgjklcnlaaDoor.Wb
open Go.RowKit

/-- A word's number. -/
def wv (x : Wd) : Int := (x.toNat : Int)
theorem wv_nonneg (x : Wd) : 0 ≤ wv x := by unfold wv; omega
theorem wv_lt (x : Wd) : wv x < 4294967296 := by have := x.isLt; unfold wv; omega
theorem wv_ofInt (x : Wd) : BitVec.ofInt 32 (wv x) = x := by
  unfold wv; rw [BitVec.ofInt_natCast, BitVec.ofNat_toNat, BitVec.setWidth_eq]
theorem wrap_toNat (x : Wd) : IntKind.u32.wrap (x.toNat : Int) = wv x := by
  have := x.isLt
  rw [IntKind.wrap_u32]; unfold wv; omega
theorem wv_xor (x y : Wd) : bits .xor .u32 (wv x) (wv y) = wv (x ^^^ y) := by
  show IntKind.u32.wrap ((BitVec.ofInt 32 (wv x) ^^^ BitVec.ofInt 32 (wv y)).toNat : Int) = _
  rw [wv_ofInt, wv_ofInt, wrap_toNat]
theorem wv_and (x y : Wd) : bits .and .u32 (wv x) (wv y) = wv (x &&& y) := by
  show IntKind.u32.wrap ((BitVec.ofInt 32 (wv x) &&& BitVec.ofInt 32 (wv y)).toNat : Int) = _
  rw [wv_ofInt, wv_ofInt, wrap_toNat]
theorem wv_or (x y : Wd) : bits .or .u32 (wv x) (wv y) = wv (x ||| y) := by
  show IntKind.u32.wrap ((BitVec.ofInt 32 (wv x) ||| BitVec.ofInt 32 (wv y)).toNat : Int) = _
  rw [wv_ofInt, wv_ofInt, wrap_toNat]
theorem wv_not (x : Wd) : bits .xor .u32 IntKind.u32.max (wv x) = wv (~~~x) := by
  show IntKind.u32.wrap ((BitVec.ofInt 32 IntKind.u32.max ^^^ BitVec.ofInt 32 (wv x)).toNat : Int) = _
  have : BitVec.ofInt 32 IntKind.u32.max = BitVec.allOnes 32 := by decide
  rw [wv_ofInt, wrap_toNat, this, BitVec.allOnes_xor]
theorem wv_add (x y : Wd) : (wv x + wv y) % 4294967296 = wv (x + y) := by
  unfold wv; rw [BitVec.toNat_add]; omega
theorem wv_add' (x y : Wd) : IntKind.u32.wrap (wv x + wv y) = wv (x + y) := by
  rw [IntKind.wrap_u32]; exact wv_add x y
theorem wv_shr (x : Wd) (n : Nat) : wv x / ((2 ^ n : Nat) : Int) = wv (x >>> n) := by
  unfold wv
  rw [BitVec.toNat_ushiftRight, Nat.shiftRight_eq_div_pow]; exact (Int.natCast_ediv _ _).symm
theorem wv_shl (x : Wd) (n : Nat) : (wv x * ((2 ^ n : Nat) : Int)) % 4294967296 = wv (x <<< n) := by
  unfold wv
  rw [BitVec.toNat_shiftLeft, Nat.shiftLeft_eq]
  exact (Int.natCast_emod _ _).symm
theorem wv_ofNat (n : Nat) (h : n < 4294967296) : ((n : Nat) : Int) = wv (BitVec.ofNat 32 n) := by
  unfold wv; rw [BitVec.toNat_ofNat, Nat.mod_eq_of_lt (by omega)]
theorem wv_shr' (x : Wd) (n : Nat) : wv x / (2 : Int) ^ n = wv (x >>> n) := by
  rw [← wv_shr]; simp
theorem wv_shl' (x : Wd) (n : Nat) : (wv x * (2 : Int) ^ n) % 4294967296 = wv (x <<< n) := by
  rw [← wv_shl]; simp
theorem wv_wrap (x : Wd) : IntKind.u32.wrap (wv x) = wv x := by
  have := wv_nonneg x; have := wv_lt x
  rw [IntKind.wrap_u32]; omega
theorem wv_shlk (x : Wd) (n : Nat) (k : Int) (h : k = ((2 ^ n : Nat) : Int)) : IntKind.u32.wrap (wv x * k) = wv (x <<< n) := by
  rw [h, IntKind.wrap_u32]; exact wv_shl x n
theorem wv_shrk (x : Wd) (n : Nat) (k : Int) (h : k = ((2 ^ n : Nat) : Int)) : wv x / k = wv (x >>> n) := by
  rw [h]; exact wv_shr x n
theorem wv_bw (b : UInt8) : wv (bw b) = ((b.toNat : Nat) : Int) := by
  have := b.toNat_lt
  unfold bw; rw [← wv_ofNat _ (by omega)]
theorem wv_bw_lt (b : UInt8) : wv (bw b) < 256 := by
  have := b.toNat_lt
  rw [wv_bw]; omega
/-- Words as values. -/
def wordsV (l : List Wd) : List Value := l.map fun x => Value.int .u32 (wv x)
/-- Bytes as values. -/
def bytesV (l : List UInt8) : List Value := l.map fun b => Value.int .u8 (wv (bw b))
theorem wordsV_at (l : List Wd) (i : Nat) (h : i < l.length) : (wordsV l)[i]? = some (.int .u32 (wv (l.getD i 0))) := by
  unfold wordsV; rw [List.getElem?_map, List.getD, List.getElem?_eq_getElem h]; rfl
theorem bytesV_at (l : List UInt8) (i : Nat) (h : i < l.length) : (bytesV l)[i]? = some (.int .u8 (wv (bw (l.getD i 0)))) := by
  unfold bytesV; rw [List.getElem?_map, List.getD, List.getElem?_eq_getElem h]; rfl
theorem wordsV_one (l : List Wd) : (wordsV l).toArray.all (·.oneCell') = true := by
  unfold wordsV; rw [List.all_toArray, List.all_map, List.all_eq_true]; intro x _; rfl
theorem bytesV_one (l : List UInt8) : (bytesV l).toArray.all (·.oneCell') = true := by
  unfold bytesV; rw [List.all_toArray, List.all_map, List.all_eq_true]; intro x _; rfl
theorem wordsV_length (l : List Wd) : (wordsV l).length = l.length := by unfold wordsV; exact List.length_map _
theorem bytesV_length (l : List UInt8) : (bytesV l).length = l.length := by unfold bytesV; exact List.length_map _
end Go.Proofs.YtihohjgjklcnlaaDoor.Wb

namespace Go.Proofs.YtihohjgjklcnlaaDoor.Wb
open Go.RowKit

theorem neg_and31 : ∀ k : Fin 32, 0 < k.val → bits .and .u64 (IntKind.u64.wrap (-(k.val : Int))) 31 = ((32 - k.val : Nat) : Int) := by decide +kernel

set_option maxHeartbeats 400000 in
theorem rotl_any (x : Wd) (n : Nat) (w : World) (h0 : 0 < n) (h1 : n < 32) :
    Calls Tryd.prog 111 #[.int .u32 (wv x), .int .i64 (-(n : Int))] w fun e w' => e = .returned (.int .u32 (wv (rotW x n))) ∧ w = w' := by
  have hb := wv_nonneg x
  have hc := wv_lt x
  have hk := neg_and31 ⟨n, h1⟩ h0
  have hz : wv (rotW x n) = wv (x <<< (32 - n) ||| x >>> n) := by unfold rotW; rw [BitVec.or_comm]
  have HZ := Lib.hid hz
  clear hz
  obtain ⟨m, hm⟩ : ∃ m, m = 32 - n := ⟨_, rfl⟩
  simp only [← hm] at hk HZ
  have hm0 : m < 32 := by omega
  have hm1 : 0 < m := by omega
  have hmn : m + n ≤ 32 := by omega
  have hmn' : 32 ≤ m + n := by omega
  clear hm
  have hd : (32 : Int) - (m : Int) = (n : Int) := by omega
  have hsl := wv_shl' x m
  have hsr := wv_shr' x n
  have hor := wv_or (x <<< m) (x >>> n)
  go_enter Tryd.func111, Tryd.ntmps111
  go_wp2
  go_ret
  rw [HZ.out]
  exact ⟨rfl, rfl⟩

theorem rotate_any (x : Wd) (k : Int) (w : World) (h0 : 0 < k) (h1 : k < 32) :
    Calls Tryd.prog 108 #[.int .u32 (wv x), .int .i64 k] w fun e w' => e = .returned (.int .u32 (wv (rotW x k.toNat))) ∧ w = w' := by
  obtain ⟨n, rfl⟩ := Int.eq_ofNat_of_zero_le (Int.le_of_lt h0)
  go_enter Tryd.func108, Tryd.ntmps108
  go_wp2_with (go_at_call 111; refine (rotl_any x n _ (by omega) (by omega)).mono ?_; rintro e w' ⟨rfl, rfl⟩)
  go_ret
  exact ⟨rfl, rfl⟩
/-- The same within a region that only reads. -/
theorem rotate_q (x : Wd) (k : Int) (w : World) (n : Nat) (h0 : 0 < k) (h1 : k < 32) :
    Calls Tryd.prog 108 #[.int .u32 (wv x), .int .i64 k] (w.drewN n) fun e w' => e = .returned (.int .u32 (wv (rotW x k.toNat))) ∧ ∃ m, w' = w.drewN m :=
  (rotate_any x k (w.drewN n) h0 h1).mono fun _ _ ⟨he, hw⟩ => ⟨he, n, hw.symm⟩
/-- The same behind a region that only read. -/
theorem rotate_q2 (x : Wd) (k : Int) (w : World) (a n : Nat) (h0 : 0 < k) (h1 : k < 32) :
    Calls Tryd.prog 108 #[.int .u32 (wv x), .int .i64 k] (w.drewN (a + n)) fun e w' => e = .returned (.int .u32 (wv (rotW x k.toNat))) ∧ ∃ m, w' = w.drewN (a + m) :=
  (rotate_any x k (w.drewN (a + n)) h0 h1).mono fun _ _ ⟨he, hw⟩ => ⟨he, n, hw.symm⟩
end Go.Proofs.YtihohjgjklcnlaaDoor.Wb

namespace Go.Proofs.YtihohjgjklcnlaaDoor.Wb
open Go.RowKit

/-- The table, as the program's text lays it, in block 0. -/
def Tab (w : World) : Prop := 0 < w.heap.size ∧ ∀ i, i < 64 → w.cell? ⟨0, i, none⟩ = some (.int .u32 (wv (Sha.K.getD i 0)))
theorem Tab.below {w w' : World} (h : Tab w) (hb : Below w.heap.size w w') : Tab w' :=
  ⟨Nat.lt_of_lt_of_le h.1 hb.size, fun i hi => (hb.cell (p := ⟨0, i, none⟩) h.1).trans (h.2 i hi)⟩

/-- A block of words. -/
def WordsAt (w : World) (b : Nat) (l : List Wd) : Prop := ∀ i, i < l.length → w.cell? ⟨b, i, none⟩ = some (.int .u32 (wv (l.getD i 0)))
theorem WordsAt.of_heap {w : World} {b : Nat} {l : List Wd} {t : TypeId} {fr : Nat × Nat} (h : w.heap[b]? = some (.cells (wordsV l).toArray t fr)) : WordsAt w b l := fun i hi => by
  rw [cell_of_row w b i _ t fr h]
  simpa using wordsV_at l i hi
/-- A block that is a row of words, as a whole. -/
def RowAt (w : World) (b : Nat) (t : TypeId) (l : List Wd) : Prop := w.heap[b]? = some (.cells (wordsV l).toArray t (0, 0))
theorem RowAt.set {w : World} {b : Nat} {t : TypeId} {l : List Wd} (h : RowAt w b t l) (i : Nat) (x : Wd) : RowAt (w.setCell ⟨b, i, none⟩ (.int .u32 (wv x))) b t (l.set i x) := by
  unfold RowAt
  rw [heap_setCell_same w b i _ t _ h]
  congr 2
  unfold wordsV
  rw [List.map_set, List.setIfInBounds_toArray]
theorem RowAt.other {w : World} {b c i : Nat} {t : TypeId} {l : List Wd} (h : RowAt w b t l) (v : Value) (hn : b ≠ c) : RowAt (w.setCell ⟨c, i, none⟩ v) b t l := by
  unfold RowAt
  rw [heap_setCell_other _ _ _ _ hn]; exact h
theorem WordsAt.below {w w' : World} {b n : Nat} {l : List Wd} (h : WordsAt w b l) (hb : Below n w w') (hn : b < n) : WordsAt w' b l := fun i hi => (hb.cell (p := ⟨b, i, none⟩) hn).trans (h i hi)

set_option maxRecDepth 100000 in
set_option maxHeartbeats 2000000 in
theorem mix_any (s : Sha.St) (ws : List Wd) (hl : ws.length = 64) (w : World) (ht : Tab w) :
    Calls Tryd.prog 98 #[.agg (wordsV s.list).toArray, .agg (wordsV ws).toArray] w fun e w' => e = .returned (.agg (wordsV (Sha.plus s (Sha.rounds ws s 64)).list).toArray) ∧ Below w.heap.size w w' := by
  go_enter Tryd.func98, Tryd.ntmps98
  go_wp2_with fail
  obtain ⟨W0, hW⟩ : ∃ W, W = ((w.alloc (.cells (wordsV s.list).toArray 167)).alloc (.cells (wordsV ws).toArray 175)).alloc (.cells #[.int .u32 0, .int .u32 0, .int .u32 0, .int .u32 0, .int .u32 0, .int .u32 0, .int .u32 0, .int .u32 0] 167) := ⟨_, rfl⟩
  rw [← hW]
  have hB : Below w.heap.size w W0 := by rw [hW]; exact (((Below.refl _ w).alloc (Nat.le_refl _) _).alloc (by simp) _).alloc (by simp; omega) _
  have hs : WordsAt W0 w.heap.size s.list := WordsAt.of_heap (t := 167) (fr := (0, 0)) (by rw [hW, heap_alloc_old _ _ (by simp; omega), heap_alloc_old _ _ (by simp)]; exact heap_alloc_new _ _)
  have hw : WordsAt W0 (w.heap.size + 1) ws := WordsAt.of_heap (t := 175) (fr := (0, 0)) (by rw [hW, heap_alloc_old _ _ (by simp)]; exact heap_alloc2_new _ _ _)
  have hT := ht.below hB
  have e0 := hs 0 (by show _ < 8; omega)
  have e1 := hs 1 (by show _ < 8; omega)
  have e2 := hs 2 (by show _ < 8; omega)
  have e3 := hs 3 (by show _ < 8; omega)
  have e4 := hs 4 (by show _ < 8; omega)
  have e5 := hs 5 (by show _ < 8; omega)
  have e6 := hs 6 (by show _ < 8; omega)
  have e7 := hs 7 (by show _ < 8; omega)
  simp only [Sha.St.list, List.getD_cons_zero, List.getD_cons_succ] at e0 e1 e2 e3 e4 e5 e6 e7
  have HW := Lib.hid hW
  have HS := Lib.hid hs
  have Hw := Lib.hid hw
  have HT := Lib.hid hT
  clear hW hs hw hT
  go_quiet (fail)
  clear e0 e1 e2 e3 e4 e5 e6 e7
  go_wp2_with fail
  go_loopw [5, 6, 7, 8, 9, 10, 11, 12, 34] (fun a b c d e f g h i wr => ∃ (k n : Nat), k ≤ 64 ∧ i = .int .i64 k ∧ wr = W0.drewN n ∧ a = .int .u32 (wv (Sha.rounds ws s k).a) ∧ b = .int .u32 (wv (Sha.rounds ws s k).b) ∧ c = .int .u32 (wv (Sha.rounds ws s k).c) ∧ d = .int .u32 (wv (Sha.rounds ws s k).d)
      ∧ e = .int .u32 (wv (Sha.rounds ws s k).e) ∧ f = .int .u32 (wv (Sha.rounds ws s k).f) ∧ g = .int .u32 (wv (Sha.rounds ws s k).g) ∧ h = .int .u32 (wv (Sha.rounds ws s k).h)) (fun _ _ _ _ _ _ _ _ i _ => 64 - (intOf i).toNat)
  case atStart => exact ⟨0, _, by omega, rfl, rfl, rfl, rfl, rfl, rfl, rfl, rfl, rfl, rfl⟩
  case round =>
    obtain ⟨k, nk, hk, rfl, hwr, rfl, rfl, rfl, rfl, rfl, rfl, rfl, rfl⟩ := hrel
    have HR := Lib.hid hwr
    by_cases hk64 : k < 64
    · as_aux_lemma =>
      have c1 : wr.cell? ⟨0, k, none⟩ = some (.int .u32 (wv (Sha.K.getD k 0))) := by rw [HR.out]; exact HT.out.2 k hk64
      have c2 : wr.cell? ⟨w.heap.size + 1, k, none⟩ = some (.int .u32 (wv (ws.getD k 0))) := by rw [HR.out]; exact Hw.out k (by omega)
      have hnext : Sha.rounds ws s (k + 1) = Sha.rnd (Sha.rounds ws s k) (Sha.K.getD k 0) (ws.getD k 0) := rfl
      have HN := Lib.hid hnext
      clear hnext hwr
      generalize Sha.K.getD k 0 = kk at *
      generalize ws.getD k 0 = ww at *
      generalize Sha.rounds ws s k = st at *
      have g1 := wv_xor (rotW st.e 6) (rotW st.e 11)
      have g2 : bits .xor .u32 (wv (rotW st.e 6 ^^^ rotW st.e 11)) (wv (rotW st.e 25)) = wv (Sha.S1 st.e) := wv_xor _ _
      have g3 := wv_add' st.h (Sha.S1 st.e)
      have g4 := wv_and st.e st.f
      have g5 : bits .xor .u32 (if IntKind.u32.signed = true then -1 else IntKind.u32.max) (wv st.e) = wv (~~~st.e) := wv_not _
      have g6 := wv_and (~~~st.e) st.g
      have g7 : bits .xor .u32 (wv (st.e &&& st.f)) (wv (~~~st.e &&& st.g)) = wv (Sha.ch st.e st.f st.g) := wv_xor _ _
      have g8 := wv_add' (st.h + Sha.S1 st.e) (Sha.ch st.e st.f st.g)
      have g9 := wv_add' (st.h + Sha.S1 st.e + Sha.ch st.e st.f st.g) kk
      have g10 : IntKind.u32.wrap (wv (st.h + Sha.S1 st.e + Sha.ch st.e st.f st.g + kk) + wv ww) = wv (Sha.tW st kk ww) := wv_add' _ _
      have hk0 : (k : Int) < 64 := by omega
      go_wp2_with fail
      go_quiet ((go_at_call 108; exact rotate_q _ _ _ _ (by decide) (by decide)))
      clear g1 g2 g3 g4 g5 g6 g7 g8 g9 g10 c1 c2
      have g1 := wv_xor (rotW st.a 2) (rotW st.a 13)
      have g2 : bits .xor .u32 (wv (rotW st.a 2 ^^^ rotW st.a 13)) (wv (rotW st.a 22)) = wv (Sha.S0 st.a) := wv_xor _ _
      have g3 := wv_and st.a st.b
      have g4 := wv_and st.a st.c
      have g5 := wv_xor (st.a &&& st.b) (st.a &&& st.c)
      have g6 := wv_and st.b st.c
      have g7 : bits .xor .u32 (wv (st.a &&& st.b ^^^ st.a &&& st.c)) (wv (st.b &&& st.c)) = wv (Sha.maj st.a st.b st.c) := wv_xor _ _
      have g8 : IntKind.u32.wrap (wv (Sha.S0 st.a) + wv (Sha.maj st.a st.b st.c)) = wv (Sha.uW st) := wv_add' _ _
      have g9 := wv_add' (Sha.tW st kk ww) (Sha.uW st)
      have g10 := wv_add' st.d (Sha.tW st kk ww)
      go_wp2_with (go_at_call 108; refine (rotate_any _ _ _ (by decide) (by decide)).mono ?_; rintro e w' ⟨rfl, rfl⟩)
      go_roundw
      case rel => exact ⟨k + 1, _, by omega, by go_num, by rw [HR.out]; exact World.drewN_drewN _ _ _, by rw [HN.out]; rfl, by rw [HN.out]; rfl, by rw [HN.out]; rfl, by rw [HN.out]; rfl, by rw [HN.out]; rfl, by rw [HN.out]; rfl, by rw [HN.out]; rfl, by rw [HN.out]; rfl⟩
      case measure => simp [intOf]; omega
    · obtain rfl : k = 64 := by omega
      have HR := Lib.hid hwr
      clear hwr
      generalize hR : Sha.rounds ws s 64 = R at *
      have HRR := Lib.hid hR
      clear hR
      go_wp2_with fail
      obtain ⟨W1, hW1⟩ : ∃ W, W = wr := ⟨_, rfl⟩
      rw [← hW1]
      have HW1 := Lib.hid hW1
      clear hW1
      have hh : W1.heap = (((w.alloc (.cells (wordsV s.list).toArray 167)).alloc (.cells (wordsV ws).toArray 175)).alloc (.cells #[.int .u32 0, .int .u32 0, .int .u32 0, .int .u32 0, .int .u32 0, .int .u32 0, .int .u32 0, .int .u32 0] 167)).heap := by rw [HW1.out, HR.out, HW.out]; rfl
      have r0 : RowAt W1 w.heap.size 167 s.list := by
        unfold RowAt
        rw [hh, heap_alloc_old _ _ (by simp; omega), heap_alloc_old _ _ (by simp)]; exact heap_alloc_new _ _
      have r2 : RowAt W1 (w.heap.size + 2) 167 [0, 0, 0, 0, 0, 0, 0, 0] := by
        unfold RowAt
        rw [hh, show w.heap.size + 2 = (World.alloc (World.alloc w (.cells (wordsV s.list).toArray 167)) (.cells (wordsV ws).toArray 175)).heap.size by simp]
        exact heap_alloc_new _ _
      have hb1 : Below w.heap.size w W1 := by rw [HW1.out, HR.out]; exact hB.trans ⟨rfl, rfl, rfl, Nat.le_refl _, fun _ _ => rfl⟩
      clear hk64 hh
      go_loopw [106] (fun i wr => ∃ (k : Nat), k ≤ 8 ∧ i = .int .i64 k ∧ RowAt wr w.heap.size 167 ((Sha.plus s R).list.take k ++ s.list.drop k) ∧ RowAt wr (w.heap.size + 2) 167 [0, 0, 0, 0, 0, 0, 0, 0] ∧ Below w.heap.size w wr) (fun i _ => 8 - (intOf i).toNat)
      case atStart => exact ⟨0, by omega, rfl, r0, r2, hb1⟩
      case round =>
        obtain ⟨k, hk, rfl, q0, q2, hb2⟩ := hrel
        by_cases hk8 : k < 8
        · as_aux_lemma =>
          obtain ⟨sk, hsk⟩ : ∃ x, x = s.list.getD k 0 := ⟨_, rfl⟩
          obtain ⟨rk, hrk⟩ : ∃ x, x = R.list.getD k 0 := ⟨_, rfl⟩
          have hix : ∀ W, (Instr.index 167 (.agg #[.int .u32 (wv R.a), .int .u32 (wv R.b), .int .u32 (wv R.c), .int .u32 (wv R.d), .int .u32 (wv R.e), .int .u32 (wv R.f), .int .u32 (wv R.g), .int .u32 (wv R.h)]) (.int .i64 (k : Int))).run Tryd.prog W = .ok (.int .u32 (wv rk)) W := by
            intro W
            rw [hrk]
            match k, hk8 with
            | 0, _ => rfl
            | 1, _ => rfl
            | 2, _ => rfl
            | 3, _ => rfl
            | 4, _ => rfl
            | 5, _ => rfl
            | 6, _ => rfl
            | 7, _ => rfl
          have hc : wr.cell? ⟨w.heap.size, k, none⟩ = some (.int .u32 (wv sk)) ∧ ((Sha.plus s R).list.take k ++ s.list.drop k).set k (sk + rk) = (Sha.plus s R).list.take (k + 1) ++ s.list.drop (k + 1) := by
            rw [cell_of_row wr _ k _ _ _ q0, hsk, hrk]
            match k, hk8 with
            | 0, _ => exact ⟨rfl, rfl⟩
            | 1, _ => exact ⟨rfl, rfl⟩
            | 2, _ => exact ⟨rfl, rfl⟩
            | 3, _ => exact ⟨rfl, rfl⟩
            | 4, _ => exact ⟨rfl, rfl⟩
            | 5, _ => exact ⟨rfl, rfl⟩
            | 6, _ => exact ⟨rfl, rfl⟩
            | 7, _ => exact ⟨rfl, rfl⟩
          obtain ⟨hc, hnx⟩ := hc
          have hf : wr.frozen? ⟨w.heap.size, k, none⟩ = false := frozen_of_row wr _ k _ _ q0
          have hk0 : (k : Int) < 8 := by omega
          have hq0 := q0.set k (sk + rk)
          rw [hnx] at hq0
          have hq2 := q2.other (c := w.heap.size) (i := k) (.int .u32 (wv (sk + rk))) (by omega)
          have hb3 := hb2.setCell (p := ⟨w.heap.size, k, none⟩) (Nat.le_refl _) (.int .u32 (wv (sk + rk)))
          have HQ := Lib.hid (And.intro hq0 (And.intro hq2 hb3))
          have hs := wv_add' sk rk
          clear hsk hrk hnx hq0 hq2 q0 q2 hb2 hb3
          go_wp2_with fail
          go_roundw
          case rel => exact ⟨k + 1, by omega, by go_num, HQ.out.1, HQ.out.2.1, HQ.out.2.2⟩
          case measure => simp [intOf]; omega
        · as_aux_lemma =>
          obtain rfl : k = 8 := by omega
          have hag : ∀ i (_ : (Sha.plus s R).list.length = i), True := fun _ _ => trivial
          clear hag
          have q0' : RowAt wr w.heap.size 167 (Sha.plus s R).list := q0
          have hui : (Tryd.prog.info? 167).map (·.size) = some (wordsV (Sha.plus s R).list).toArray.size := by kernel_rfl
          have huo : (Tryd.prog.info? 167).map (·.size) = some (wordsV [0, 0, 0, 0, 0, 0, 0, 0]).toArray.size := by kernel_rfl
          have HP := Lib.hid (And.intro q0' (And.intro q2 hb2))
          clear q0 q0' q2 hb2
          have hk8' : decide (((8 : Nat) : Int) < 8) = false := by decide
          go_wp2_with (first
            | (refine wpList_load_row rfl 167 (.tmp 2) rfl w.heap.size rfl 167 _ (0, 0) _ HP.out.1 Tryd.underlying167 rfl hui ?_)
            | ((refine wpList_store_row rfl 167 (.tmp 4) (.tmp 117) rfl (w.heap.size + 2) (wordsV (Sha.plus s R).list).toArray rfl rfl 167 _ HP.out.2.1 hui rfl (wordsV_one _) ?_)))
          have hrow : ((wr.setRow (w.heap.size + 2) (wordsV (Sha.plus s R).list).toArray).heap[w.heap.size + 2]?) = some (.cells (wordsV (Sha.plus s R).list).toArray 167 (0, 0)) := setRow_heap wr _ _ _ _ _ HP.out.2.1
          refine bodyPost_ret (results_cell_row rfl _ _ (w.heap.size + 2) 167 _ (0, 0) _ rfl hrow Tryd.underlying167 rfl hui) rfl ?_
          rw [HRR.out]
          exact ⟨rfl, below_setRow HP.out.2.2 (by omega) _⟩
end Go.Proofs.YtihohjgjklcnlaaDoor.Wb
