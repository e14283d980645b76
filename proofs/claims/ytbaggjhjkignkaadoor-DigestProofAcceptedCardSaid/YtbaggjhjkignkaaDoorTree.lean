/-
  Trees of digests over any function from strings to strings of 32 bytes: roots, proofs and extensions are accepted, are short, and bind. No program is spoken of. Condition: the function's answers have 32 bytes, where a theorem says so.
-/
import Derived.Test.YtbaggjhjkignkaaDoorChecked
namespace Go.Proofs.YtbaggjhjkignkaaDoor.Tree

section lefts
/-- The greatest power of two that is less than n, for n of at least 2. -/
def leftN (n : Nat) : Nat := 2 ^ (n - 1).log2
theorem leftN_pos (n : Nat) : 0 < leftN n := Nat.two_pow_pos _
theorem leftN_lt {n : Nat} (h : 2 ≤ n) : leftN n < n := by
  have := Nat.log2_self_le (n := n - 1) (by omega)
  unfold leftN; omega
theorem leftN_le {n : Nat} (h : 2 ≤ n) : n ≤ 2 * leftN n := by
  have := Nat.lt_log2_self (n := n - 1)
  unfold leftN; rw [Nat.pow_succ] at this; omega
/-- A power of two that lies so is it. -/
theorem leftN_is {n j : Nat} (h1 : 2 ^ j < n) (h2 : n ≤ 2 * 2 ^ j) : leftN n = 2 ^ j := by
  have : (n - 1).log2 = j := (Nat.log2_eq_iff (by omega)).2 ⟨by omega, by rw [Nat.pow_succ]; omega⟩
  unfold leftN
  rw [this]
end lefts

variable (H : ByteArray → ByteArray)

def leafS (s : ByteArray) : ByteArray := H (⟨#[0]⟩ ++ s)
def nodeS (a b : ByteArray) : ByteArray := H (⟨#[1]⟩ ++ a ++ b)
def chainS (h r : ByteArray) : ByteArray := H (⟨#[2]⟩ ++ h ++ r)

theorem append_inj {a b x y : ByteArray} (h : a ++ x = b ++ y) (hs : x.size = y.size) : a = b ∧ x = y := by
  have h' := congrArg (fun t : ByteArray => t.data.toList) h
  simp only [ByteArray.data_append, Array.toList_append] at h'
  obtain ⟨h1, h2⟩ := List.append_inj' h' (by simpa using hs)
  exact ⟨ByteArray.ext (Array.toList_inj.1 h1), ByteArray.ext (Array.toList_inj.1 h2)⟩
theorem append_inj_left {a b x y : ByteArray} (h : a ++ x = b ++ y) (hs : a.size = b.size) : a = b ∧ x = y := by
  have h' := congrArg (fun t : ByteArray => t.data.toList) h
  simp only [ByteArray.data_append, Array.toList_append] at h'
  obtain ⟨h1, h2⟩ := List.append_inj h' (by simpa using hs)
  exact ⟨ByteArray.ext (Array.toList_inj.1 h1), ByteArray.ext (Array.toList_inj.1 h2)⟩
/-- A byte and two strings, the second ones of one length. -/
theorem three_inj {c a b x y : ByteArray} (h : c ++ a ++ x = c ++ b ++ y) (hs : x.size = y.size) : a = b ∧ x = y := by
  obtain ⟨h1, h2⟩ := append_inj h hs
  exact ⟨(append_inj_left h1 rfl).2, h2⟩
/-- A byte and two strings, the first ones of one length. -/
theorem three_inj_left {c a b x y : ByteArray} (h : c ++ a ++ x = c ++ b ++ y) (hs : a.size = b.size) : a = b ∧ x = y := by
  obtain ⟨h1, h2⟩ := append_inj_left h (by rw [ByteArray.size_append, ByteArray.size_append, hs])
  exact ⟨(append_inj_left h1 rfl).2, h2⟩

/-! ### Roots, proofs, extensions -/

def rootS (l : List ByteArray) : ByteArray :=
  if _h : l.length ≤ 1 then (match l with | [] => H ⟨#[]⟩ | x :: _ => leafS H x)
  else nodeS H (rootS (l.take (leftN l.length))) (rootS (l.drop (leftN l.length)))
termination_by l.length
decreasing_by
  · have := leftN_lt (n := l.length) (by omega); rw [List.length_take]; omega
  · have := leftN_pos l.length; rw [List.length_drop]; omega

theorem rootS_nil : rootS H [] = H ⟨#[]⟩ := by rw [rootS]; simp
theorem rootS_one (x : ByteArray) : rootS H [x] = leafS H x := by rw [rootS]; simp
theorem rootS_two {l : List ByteArray} (h : 2 ≤ l.length) : rootS H l = nodeS H (rootS H (l.take (leftN l.length))) (rootS H (l.drop (leftN l.length))) := by
  rw [rootS, dif_neg (by omega)]
theorem rootS_size (hH : ∀ s, (H s).size = 32) (l : List ByteArray) : (rootS H l).size = 32 := by
  by_cases h : 2 ≤ l.length
  · rw [rootS_two H h]; exact hH _
  · match l, h with
    | [], _ => rw [rootS_nil]; exact hH _
    | [x], _ => rw [rootS_one]; exact hH _
    | _ :: _ :: _, h => simp at h

def proofS (l : List ByteArray) (i : Nat) : List ByteArray :=
  if _h : l.length ≤ 1 then []
  else if i < leftN l.length then proofS (l.take (leftN l.length)) i ++ [rootS H (l.drop (leftN l.length))]
  else proofS (l.drop (leftN l.length)) (i - leftN l.length) ++ [rootS H (l.take (leftN l.length))]
termination_by l.length
decreasing_by
  · have := leftN_lt (n := l.length) (by omega); rw [List.length_take]; omega
  · have := leftN_pos l.length; rw [List.length_drop]; omega

theorem proofS_one {l : List ByteArray} {i : Nat} (h : l.length ≤ 1) : proofS H l i = [] := by rw [proofS, dif_pos h]
theorem proofS_low {l : List ByteArray} {i : Nat} (h : 2 ≤ l.length) (hi : i < leftN l.length) : proofS H l i = proofS H (l.take (leftN l.length)) i ++ [rootS H (l.drop (leftN l.length))] := by
  rw [proofS, dif_neg (by omega), if_pos hi]
theorem proofS_high {l : List ByteArray} {i : Nat} (h : 2 ≤ l.length) (hi : ¬ i < leftN l.length) : proofS H l i = proofS H (l.drop (leftN l.length)) (i - leftN l.length) ++ [rootS H (l.take (leftN l.length))] := by
  rw [proofS, dif_neg (by omega), if_neg hi]

def partS (l : List ByteArray) (m : Nat) (whole : Bool) : List ByteArray :=
  if _h : l.length ≤ m ∨ l.length ≤ 1 then (if whole then [] else [rootS H l])
  else if m ≤ leftN l.length then partS (l.take (leftN l.length)) m whole ++ [rootS H (l.drop (leftN l.length))]
  else partS (l.drop (leftN l.length)) (m - leftN l.length) false ++ [rootS H (l.take (leftN l.length))]
termination_by l.length
decreasing_by
  · have := leftN_lt (n := l.length) (by omega); rw [List.length_take]; omega
  · have := leftN_pos l.length; rw [List.length_drop]; omega

theorem partS_all {l : List ByteArray} {m : Nat} {whole : Bool} (h : l.length ≤ m) : partS H l m whole = if whole then [] else [rootS H l] := by rw [partS, dif_pos (.inl h)]
theorem partS_low {l : List ByteArray} {m : Nat} {whole : Bool} (h1 : 1 ≤ m) (h2 : m < l.length) (hm : m ≤ leftN l.length) : partS H l m whole = partS H (l.take (leftN l.length)) m whole ++ [rootS H (l.drop (leftN l.length))] := by
  rw [partS, dif_neg (by omega), if_pos hm]
theorem partS_high {l : List ByteArray} {m : Nat} {whole : Bool} (h1 : 1 ≤ m) (h2 : m < l.length) (hm : ¬ m ≤ leftN l.length) : partS H l m whole = partS H (l.drop (leftN l.length)) (m - leftN l.length) false ++ [rootS H (l.take (leftN l.length))] := by
  rw [partS, dif_neg (by omega), if_neg hm]

def extS (l : List ByteArray) (m : Nat) : List ByteArray := if m = 0 then [] else partS H l m true

/-! ### Values of proofs, the last element first -/

def valueR (s : ByteArray) : Nat → Nat → List ByteArray → Option ByteArray
  | n, _, [] => if n ≤ 1 then some (leafS H s) else none
  | n, i, x :: r => if n ≤ 1 then none else
      if i < leftN n then (valueR s (leftN n) i r).map fun v => nodeS H v x
      else (valueR s (n - leftN n) (i - leftN n) r).map fun v => nodeS H x v

/-- How many elements a proof of place i of n has. -/
def depthR : Nat → Nat → List ByteArray → Bool
  | n, _, [] => decide (n ≤ 1)
  | n, i, _ :: r => if n ≤ 1 then false else if i < leftN n then depthR (leftN n) i r else depthR (n - leftN n) (i - leftN n) r
theorem valueR_depth (s : ByteArray) : ∀ (r : List ByteArray) (n i : Nat), (valueR H s n i r).isSome = depthR n i r
  | [], n, i => by unfold valueR depthR; by_cases h : n ≤ 1 <;> simp [h]
  | x :: r, n, i => by
    unfold valueR depthR
    by_cases h : n ≤ 1
    · simp [h]
    · by_cases hi : i < leftN n
      · simp [h, hi, valueR_depth s r]
      · simp [h, hi, valueR_depth s r]
/-- Two lists that are right proofs of one place have the same length. -/
theorem depth_len : ∀ (r q : List ByteArray) (n i : Nat), depthR n i r = true → depthR n i q = true → r.length = q.length
  | [], [], _, _, _, _ => rfl
  | [], _ :: _, n, i, h1, h2 => by unfold depthR at h1 h2; simp at h1; simp [h1] at h2
  | _ :: _, [], n, i, h1, h2 => by unfold depthR at h1 h2; simp at h2; simp [h2] at h1
  | _ :: r, _ :: q, n, i, h1, h2 => by
    unfold depthR at h1 h2
    by_cases h : n ≤ 1
    · simp [h] at h1
    · by_cases hi : i < leftN n
      · rw [if_neg h, if_pos hi] at h1 h2
        simp [depth_len r q _ _ h1 h2]
      · rw [if_neg h, if_neg hi] at h1 h2
        simp [depth_len r q _ _ h1 h2]

/-- The proof of an entry gives the root. -/
theorem proof_value (s : ByteArray) : ∀ (b : Nat) (l : List ByteArray) (i : Nat), l.length ≤ b → l[i]? = some s → valueR H s l.length i (proofS H l i).reverse = some (rootS H l)
  | 0, l, i, hb, hi => by have := (List.getElem?_eq_some_iff.1 hi).1; omega
  | b + 1, l, i, hb, hi => by
    have hil := (List.getElem?_eq_some_iff.1 hi).1
    by_cases h : 2 ≤ l.length
    · have h1 := leftN_lt h
      have h2 := leftN_pos l.length
      have ht : (l.take (leftN l.length)).length = leftN l.length := by rw [List.length_take]; omega
      have hd : (l.drop (leftN l.length)).length = l.length - leftN l.length := List.length_drop
      by_cases hl : i < leftN l.length
      · rw [proofS_low H h hl, List.reverse_append, List.reverse_singleton, List.singleton_append, valueR, if_neg (by omega), if_pos hl]
        have := proof_value s b (l.take (leftN l.length)) i (by omega) (by rw [List.getElem?_take_of_lt hl]; exact hi)
        rw [ht] at this
        rw [this, Option.map_some, rootS_two H h]
      · rw [proofS_high H h hl, List.reverse_append, List.reverse_singleton, List.singleton_append, valueR, if_neg (by omega), if_neg hl]
        have := proof_value s b (l.drop (leftN l.length)) (i - leftN l.length) (by omega) (by rw [List.getElem?_drop, ← hi]; congr 1; omega)
        rw [hd] at this
        rw [this, Option.map_some, rootS_two H h]
    · match l, h, hi, hil with
      | [x], _, hi, hil =>
        obtain rfl : i = 0 := by simpa using hil
        obtain rfl : x = s := by simpa using hi
        rw [proofS_one H (by simp), rootS_one]; rfl
      | _ :: _ :: _, h, _, _ => simp at h
theorem proof_sizes (hH : ∀ s, (H s).size = 32) : ∀ (b : Nat) (l : List ByteArray) (i : Nat), l.length ≤ b → ∀ x ∈ proofS H l i, x.size = 32
  | 0, l, i, hb, x, hx => by rw [proofS_one H (by omega)] at hx; simp at hx
  | b + 1, l, i, hb, x, hx => by
    by_cases h : 2 ≤ l.length
    · have h1 := leftN_lt h
      have h2 := leftN_pos l.length
      by_cases hl : i < leftN l.length
      · rw [proofS_low H h hl, List.mem_append, List.mem_singleton] at hx
        rcases hx with hx | rfl
        · exact proof_sizes hH b _ i (by rw [List.length_take]; omega) x hx
        · exact rootS_size H hH _
      · rw [proofS_high H h hl, List.mem_append, List.mem_singleton] at hx
        rcases hx with hx | rfl
        · exact proof_sizes hH b _ _ (by rw [List.length_drop]; omega) x hx
        · exact rootS_size H hH _
    · rw [proofS_one H (by omega)] at hx; simp at hx
/-- A proof has at most e elements where there are at most 2 ^ e entries. -/
theorem proof_len : ∀ (e : Nat) (l : List ByteArray) (i : Nat), l.length ≤ 2 ^ e → (proofS H l i).length ≤ e
  | 0, l, i, hb => by rw [proofS_one H (by simpa using hb)]; simp
  | e + 1, l, i, hb => by
    by_cases h : 2 ≤ l.length
    · have h1 := leftN_lt h
      have h2 := leftN_pos l.length
      have h3 := leftN_le h
      have hp : leftN l.length ≤ 2 ^ e := by
        have : leftN l.length = 2 ^ (l.length - 1).log2 := rfl
        rw [this]
        refine Nat.pow_le_pow_right (by omega) ?_
        have h4 : 2 ^ (l.length - 1).log2 < 2 ^ (e + 1) := by rw [← this]; omega
        have := (Nat.pow_lt_pow_iff_right (by omega : 1 < 2)).1 h4
        omega
      rw [Nat.pow_succ] at hb
      by_cases hl : i < leftN l.length
      · rw [proofS_low H h hl, List.length_append]
        have := proof_len e (l.take (leftN l.length)) i (by rw [List.length_take]; omega)
        simp; omega
      · rw [proofS_high H h hl, List.length_append]
        have := proof_len e (l.drop (leftN l.length)) (i - leftN l.length) (by rw [List.length_drop]; omega)
        simp; omega
    · rw [proofS_one H (by omega)]; simp

/-! ### The two values of extensions, the last element first -/

def bothR (old : ByteArray) : Nat → Nat → Bool → List ByteArray → Option (ByteArray × ByteArray)
  | m, n, whole, [] => if m = n ∧ whole = true then some (old, old) else none
  | m, n, whole, x :: r => if m = n then (if whole = false ∧ r = [] then some (x, x) else none) else
      if m ≤ leftN n then (bothR old m (leftN n) whole r).map fun p => (p.1, nodeS H p.2 x)
      else (bothR old (m - leftN n) (n - leftN n) false r).map fun p => (nodeS H x p.1, nodeS H x p.2)

/-- A part that begins with the whole list's beginning gives both roots. -/
theorem part_both (old : ByteArray) : ∀ (b : Nat) (l : List ByteArray) (m : Nat) (whole : Bool), l.length ≤ b → 1 ≤ m → m ≤ l.length → (whole = true → old = rootS H (l.take m)) →
    bothR H old m l.length whole (partS H l m whole).reverse = some (rootS H (l.take m), rootS H l)
  | 0, l, m, whole, hb, h1, hm, ho => by omega
  | b + 1, l, m, whole, hb, h1, hm, ho => by
    by_cases he : m = l.length
    · subst he
      rw [partS_all H (Nat.le_refl _), List.take_length] at *
      cases whole with
      | true => simp [bothR, ho rfl]
      | false => simp [bothR]
    · have h : 2 ≤ l.length := by omega
      have l1 := leftN_lt h
      have l2 := leftN_pos l.length
      have ht : (l.take (leftN l.length)).length = leftN l.length := by rw [List.length_take]; omega
      have hd : (l.drop (leftN l.length)).length = l.length - leftN l.length := List.length_drop
      by_cases hl : m ≤ leftN l.length
      · rw [partS_low H h1 (by omega) hl, List.reverse_append, List.reverse_singleton, List.singleton_append, bothR, if_neg he, if_pos hl]
        have e : (l.take (leftN l.length)).take m = l.take m := by rw [List.take_take, Nat.min_eq_left hl]
        have := part_both old b (l.take (leftN l.length)) m whole (by omega) h1 (by omega) (by rw [e]; exact ho)
        rw [ht, e] at this
        rw [this, Option.map_some, rootS_two H h]
      · rw [partS_high H h1 (by omega) hl, List.reverse_append, List.reverse_singleton, List.singleton_append, bothR, if_neg he, if_neg hl]
        have := part_both old b (l.drop (leftN l.length)) (m - leftN l.length) false (by omega) (by omega) (by omega) (by intro h; cases h)
        rw [hd] at this
        rw [this, Option.map_some, rootS_two H h]
        have hk : (l.take m).length = m := by rw [List.length_take]; omega
        have l3 := leftN_le h
        have hm2 : leftN (l.take m).length = leftN l.length := by
          rw [hk]; exact leftN_is (by show leftN l.length < m; omega) (by show m ≤ 2 * leftN l.length; omega)
        rw [rootS_two H (l := l.take m) (by omega), hm2, List.take_take, Nat.min_eq_left (by omega), List.drop_take]
theorem part_sizes (hH : ∀ s, (H s).size = 32) : ∀ (b : Nat) (l : List ByteArray) (m : Nat) (whole : Bool), l.length ≤ b → ∀ x ∈ partS H l m whole, x.size = 32
  | b, l, m, whole, hb, x, hx => by
    by_cases h : l.length ≤ m ∨ l.length ≤ 1
    · rw [partS, dif_pos h] at hx
      cases whole with
      | true => simp at hx
      | false => simp at hx; rw [hx]; exact rootS_size H hH _
    · cases b with
      | zero => omega
      | succ b =>
        have h1 := leftN_lt (n := l.length) (by omega)
        have h2 := leftN_pos l.length
        rw [partS, dif_neg h] at hx
        by_cases hl : m ≤ leftN l.length
        · rw [if_pos hl, List.mem_append, List.mem_singleton] at hx
          rcases hx with hx | rfl
          · exact part_sizes hH b _ _ _ (by rw [List.length_take]; omega) x hx
          · exact rootS_size H hH _
        · rw [if_neg hl, List.mem_append, List.mem_singleton] at hx
          rcases hx with hx | rfl
          · exact part_sizes hH b _ _ _ (by rw [List.length_drop]; omega) x hx
          · exact rootS_size H hH _
/-- A part has at most e + 1 elements where there are at most 2 ^ e entries. -/
theorem part_len : ∀ (e : Nat) (l : List ByteArray) (m : Nat) (whole : Bool), l.length ≤ 2 ^ e → (partS H l m whole).length ≤ e + 1
  | e, l, m, whole, hb => by
    by_cases h : l.length ≤ m ∨ l.length ≤ 1
    · rw [partS, dif_pos h]; cases whole <;> simp
    · cases e with
      | zero => simp at hb; omega
      | succ e =>
        have h1 := leftN_lt (n := l.length) (by omega)
        have h2 := leftN_pos l.length
        have h3 := leftN_le (n := l.length) (by omega)
        have hp : leftN l.length ≤ 2 ^ e := by
          have : leftN l.length = 2 ^ (l.length - 1).log2 := rfl
          rw [this]
          refine Nat.pow_le_pow_right (by omega) ?_
          have h4 : 2 ^ (l.length - 1).log2 < 2 ^ (e + 1) := by rw [← this]; omega
          have := (Nat.pow_lt_pow_iff_right (by omega : 1 < 2)).1 h4
          omega
        rw [Nat.pow_succ] at hb
        rw [partS, dif_neg h]
        by_cases hl : m ≤ leftN l.length
        · rw [if_pos hl, List.length_append]
          have := part_len e (l.take (leftN l.length)) m whole (by rw [List.length_take]; omega)
          simp; omega
        · rw [if_neg hl, List.length_append]
          have := part_len e (l.drop (leftN l.length)) (m - leftN l.length) false (by rw [List.length_drop]; omega)
          simp; omega

/-! ### Binding -/

/-- Two different strings with one digest at one place of two lists. -/
def Clash (a b : List ByteArray) : Prop := ∃ (i : Nat) (x y : ByteArray), a[i]? = some x ∧ b[i]? = some y ∧ x ≠ y ∧ H x = H y
theorem Clash.cons {a b : List ByteArray} {x y : ByteArray} (h : Clash H a b) : Clash H (x :: a) (y :: b) := by
  obtain ⟨i, u, v, h1, h2, h3, h4⟩ := h
  exact ⟨i + 1, u, v, by simpa using h1, by simpa using h2, h3, h4⟩
theorem Clash.head {a b : List ByteArray} {x y : ByteArray} (h1 : x ≠ y) (h2 : H x = H y) : Clash H (x :: a) (y :: b) := ⟨0, x, y, rfl, rfl, h1, h2⟩

/-- The strings of a proof's digests, from the root on, and the value. -/
def wayR (s : ByteArray) : Nat → Nat → List ByteArray → List ByteArray × ByteArray
  | _, _, [] => ([⟨#[0]⟩ ++ s], leafS H s)
  | n, i, x :: r => if n ≤ 1 then ([⟨#[0]⟩ ++ s], leafS H s) else
      if i < leftN n then ((⟨#[1]⟩ ++ (wayR s (leftN n) i r).2 ++ x) :: (wayR s (leftN n) i r).1, nodeS H (wayR s (leftN n) i r).2 x)
      else ((⟨#[1]⟩ ++ x ++ (wayR s (n - leftN n) (i - leftN n) r).2) :: (wayR s (n - leftN n) (i - leftN n) r).1, nodeS H x (wayR s (n - leftN n) (i - leftN n) r).2)
theorem way_value (s : ByteArray) : ∀ (r : List ByteArray) (n i : Nat) (v : ByteArray), valueR H s n i r = some v → (wayR H s n i r).2 = v
  | [], n, i, v, h => by unfold valueR at h; unfold wayR; by_cases hn : n ≤ 1 <;> simp_all
  | x :: r, n, i, v, h => by
    unfold valueR at h; unfold wayR
    by_cases hn : n ≤ 1
    · simp [hn] at h
    · by_cases hi : i < leftN n
      · simp only [hn, hi, if_true, if_false, Option.map_eq_some_iff] at h ⊢
        obtain ⟨u, hu, rfl⟩ := h
        rw [way_value s r _ _ u hu]
      · simp only [hn, hi, if_false, Option.map_eq_some_iff] at h ⊢
        obtain ⟨u, hu, rfl⟩ := h
        rw [way_value s r _ _ u hu]
theorem binding (s t : ByteArray) (hst : s ≠ t) : ∀ (r q : List ByteArray) (n i : Nat) (v : ByteArray), (∀ x ∈ r, x.size = 32) → (∀ x ∈ q, x.size = 32) →
    valueR H s n i r = some v → valueR H t n i q = some v → Clash H (wayR H s n i r).1 (wayR H t n i q).1
  | [], [], n, i, v, hr, hq, h1, h2 => by
    unfold valueR at h1 h2; unfold wayR
    by_cases hn : n ≤ 1
    · simp [hn] at h1 h2
      exact Clash.head H (fun e => hst (append_inj_left e rfl).2) (h1.trans h2.symm)
    · simp [hn] at h1
  | [], _ :: _, n, i, v, hr, hq, h1, h2 => by
    unfold valueR at h1 h2
    by_cases hn : n ≤ 1
    · simp [hn] at h2
    · simp [hn] at h1
  | _ :: _, [], n, i, v, hr, hq, h1, h2 => by
    unfold valueR at h1 h2
    by_cases hn : n ≤ 1
    · simp [hn] at h1
    · simp [hn] at h2
  | x :: r, y :: q, n, i, v, hr, hq, h1, h2 => by
    have hxy : x.size = y.size := by rw [hr x (by simp), hq y (by simp)]
    have hr' : ∀ x ∈ r, x.size = 32 := fun z hz => hr z (by simp [hz])
    have hq' : ∀ x ∈ q, x.size = 32 := fun z hz => hq z (by simp [hz])
    unfold valueR at h1 h2
    unfold wayR
    by_cases hn : n ≤ 1
    · simp [hn] at h1
    · by_cases hi : i < leftN n
      · simp only [hn, hi, if_true, if_false, Option.map_eq_some_iff] at h1 h2 ⊢
        obtain ⟨u, hu, e1⟩ := h1
        obtain ⟨u', hu', e2⟩ := h2
        rw [way_value H s r _ _ u hu, way_value H t q _ _ u' hu']
        by_cases hc : (⟨#[1]⟩ ++ u ++ x : ByteArray) = ⟨#[1]⟩ ++ u' ++ y
        · obtain ⟨rfl, rfl⟩ := three_inj hc hxy
          exact Clash.cons H (binding s t hst r q _ _ u hr' hq' hu hu')
        · exact Clash.head H hc (by unfold nodeS at e1 e2; rw [e1, e2])
      · simp only [hn, hi, if_false, Option.map_eq_some_iff] at h1 h2 ⊢
        obtain ⟨u, hu, e1⟩ := h1
        obtain ⟨u', hu', e2⟩ := h2
        rw [way_value H s r _ _ u hu, way_value H t q _ _ u' hu']
        by_cases hc : (⟨#[1]⟩ ++ x ++ u : ByteArray) = ⟨#[1]⟩ ++ y ++ u'
        · obtain ⟨rfl, rfl⟩ := three_inj_left hc hxy
          exact Clash.cons H (binding s t hst r q _ _ u hr' hq' hu hu')
        · exact Clash.head H hc (by unfold nodeS at e1 e2; rw [e1, e2])

/-- The strings of an extension's digests, from the root on, and the value. -/
def sidesR (old : ByteArray) : Nat → Nat → Bool → List ByteArray → List ByteArray × ByteArray
  | _, _, _, [] => ([], old)
  | m, n, whole, x :: r => if n ≤ m then (if whole then ([], old) else ([], (x :: r).getLast (by simp))) else
      if m ≤ leftN n then ((⟨#[1]⟩ ++ (sidesR old m (leftN n) whole r).2 ++ x) :: (sidesR old m (leftN n) whole r).1, nodeS H (sidesR old m (leftN n) whole r).2 x)
      else ((⟨#[1]⟩ ++ x ++ (sidesR old (m - leftN n) (n - leftN n) false r).2) :: (sidesR old (m - leftN n) (n - leftN n) false r).1, nodeS H x (sidesR old (m - leftN n) (n - leftN n) false r).2)
theorem sidesR_low (old x : ByteArray) (r : List ByteArray) {m n : Nat} {whole : Bool} (h : m < n) (hl : m ≤ leftN n) : sidesR H old m n whole (x :: r) = ((⟨#[1]⟩ ++ (sidesR H old m (leftN n) whole r).2 ++ x) :: (sidesR H old m (leftN n) whole r).1, nodeS H (sidesR H old m (leftN n) whole r).2 x) := by
  rw [sidesR, if_neg (by omega), if_pos hl]
theorem sidesR_high (old x : ByteArray) (r : List ByteArray) {m n : Nat} {whole : Bool} (h : m < n) (hl : ¬ m ≤ leftN n) : sidesR H old m n whole (x :: r) = ((⟨#[1]⟩ ++ x ++ (sidesR H old (m - leftN n) (n - leftN n) false r).2) :: (sidesR H old (m - leftN n) (n - leftN n) false r).1, nodeS H x (sidesR H old (m - leftN n) (n - leftN n) false r).2) := by
  rw [sidesR, if_neg (by omega), if_neg hl]
theorem sides_value (old : ByteArray) : ∀ (r : List ByteArray) (m n : Nat) (whole : Bool) (p : ByteArray × ByteArray), m ≤ n → bothR H old m n whole r = some p → (sidesR H old m n whole r).2 = p.2
  | [], m, n, whole, p, hm, h => by
    unfold bothR at h; unfold sidesR
    by_cases hc : m = n ∧ whole = true
    · simp [hc] at h; simp [← h]
    · simp [hc] at h
  | x :: r, m, n, whole, p, hm, h => by
    unfold bothR at h; unfold sidesR
    by_cases hn : m = n
    · by_cases hc : whole = false ∧ r = []
      · obtain ⟨rfl, rfl⟩ := hc
        simp [hn] at h; simp [hn, ← h]
      · simp [hn, hc] at h
    · by_cases hl : m ≤ leftN n
      · simp only [hn, hl, if_true, if_false, Option.map_eq_some_iff] at h
        obtain ⟨u, hu, rfl⟩ := h
        rw [if_neg (by omega), if_pos hl, sides_value old r _ _ _ u hl hu]
      · simp only [hn, hl, if_false, Option.map_eq_some_iff] at h
        obtain ⟨u, hu, rfl⟩ := h
        rw [if_neg (by omega), if_neg hl, sides_value old r _ _ _ u (by omega) hu]
theorem ext_binding (a b : ByteArray) : ∀ (r q : List ByteArray) (m n : Nat) (whole : Bool) (f g v : ByteArray), m ≤ n → (whole = true → m < n ∨ a = b) → (∀ x ∈ r, x.size = 32) → (∀ x ∈ q, x.size = 32) →
    bothR H a m n whole r = some (f, v) → bothR H b m n whole q = some (g, v) → f = g ∨ Clash H (sidesR H a m n whole r).1 (sidesR H b m n whole q).1
  | [], [], m, n, whole, f, g, v, hm, hw, hr, hq, h1, h2 => by
    unfold bothR at h1 h2
    by_cases hc : m = n ∧ whole = true
    · simp [hc] at h1 h2; exact .inl (by rw [← h1.1, h1.2, ← h2.2, h2.1])
    · simp [hc] at h1
  | [], y :: q, m, n, whole, f, g, v, hm, hw, hr, hq, h1, h2 => by
    unfold bothR at h1 h2
    by_cases hc : m = n ∧ whole = true
    · simp [hc] at h2
    · simp [hc] at h1
  | x :: r, [], m, n, whole, f, g, v, hm, hw, hr, hq, h1, h2 => by
    unfold bothR at h1 h2
    by_cases hc : m = n ∧ whole = true
    · simp [hc] at h1
    · simp [hc] at h2
  | x :: r, y :: q, m, n, whole, f, g, v, hm, hw, hr, hq, h1, h2 => by
    have hxy : x.size = y.size := by rw [hr x (by simp), hq y (by simp)]
    have hr' : ∀ x ∈ r, x.size = 32 := fun z hz => hr z (by simp [hz])
    have hq' : ∀ x ∈ q, x.size = 32 := fun z hz => hq z (by simp [hz])
    unfold bothR at h1 h2
    by_cases hn : m = n
    · simp only [hn, if_true] at h1 h2
      by_cases hc : whole = false ∧ r = []
      · by_cases hd : whole = false ∧ q = []
        · simp only [hc, hd, and_self, if_true, Option.some.injEq, Prod.mk.injEq] at h1 h2
          exact .inl (by rw [← h1.1, h1.2, ← h2.2, h2.1])
        · simp [hd] at h2
      · simp [hc] at h1
    · by_cases hl : m ≤ leftN n
      · simp only [hn, hl, if_true, if_false, Option.map_eq_some_iff, Prod.mk.injEq] at h1 h2
        obtain ⟨⟨u1, u2⟩, hu, rfl, e1⟩ := h1
        obtain ⟨⟨w1, w2⟩, hv, rfl, e2⟩ := h2
        have s1 := sides_value H a r _ _ _ _ hl hu
        have s2 := sides_value H b q _ _ _ _ hl hv
        rw [sidesR_low H a x r (by omega) hl, sidesR_low H b y q (by omega) hl, s1, s2]
        by_cases hc : (⟨#[1]⟩ ++ u2 ++ x : ByteArray) = ⟨#[1]⟩ ++ w2 ++ y
        · obtain ⟨rfl, rfl⟩ := three_inj hc hxy
          rcases ext_binding a b r q m (leftN n) whole u1 w1 u2 hl (fun h => by
            rcases hw h with h | h
            · by_cases he : m = leftN n
              · subst he
                have hwt := h
                subst whole
                cases r with
                | nil =>
                  cases q with
                  | nil => exact .inr (by
                      unfold bothR at hu hv
                      simp at hu hv
                      rw [hu.2, hv.2])
                  | cons _ _ => unfold bothR at hv; simp at hv
                | cons _ _ => unfold bothR at hu; simp at hu
              · exact .inl (by omega)
            · exact .inr h) hr' hq' hu hv with h | h
          · exact .inl h
          · exact .inr (Clash.cons H h)
        · exact .inr (Clash.head H hc (by unfold nodeS at e1 e2; rw [e1, e2]))
      · simp only [hn, hl, if_false, Option.map_eq_some_iff, Prod.mk.injEq] at h1 h2
        obtain ⟨⟨u1, u2⟩, hu, rfl, e1⟩ := h1
        obtain ⟨⟨w1, w2⟩, hv, rfl, e2⟩ := h2
        have s1 := sides_value H a r _ _ _ _ (by omega) hu
        have s2 := sides_value H b q _ _ _ _ (by omega) hv
        rw [sidesR_high H a x r (by omega) hl, sidesR_high H b y q (by omega) hl, s1, s2]
        by_cases hc : (⟨#[1]⟩ ++ x ++ u2 : ByteArray) = ⟨#[1]⟩ ++ y ++ w2
        · obtain ⟨rfl, rfl⟩ := three_inj_left hc hxy
          rcases ext_binding a b r q (m - leftN n) (n - leftN n) false u1 w1 u2 (by omega) (by intro h; cases h) hr' hq' hu hv with rfl | h
          · exact .inl rfl
          · exact .inr (Clash.cons H h)
        · exact .inr (Clash.head H hc (by unfold nodeS at e1 e2; rw [e1, e2]))

/-! ### Chains -/

def zeros : ByteArray := ⟨#[0, 0, 0, 0, 0, 0, 0, 0, 0, 0, 0, 0, 0, 0, 0, 0, 0, 0, 0, 0, 0, 0, 0, 0, 0, 0, 0, 0, 0, 0, 0, 0]⟩
/-- The head of a list of records, the last one first. -/
def headR : List ByteArray → ByteArray
  | [] => zeros
  | x :: r => chainS H (headR r) x
/-- The strings of its digests, the last one first. -/
def headsR : List ByteArray → List ByteArray
  | [] => []
  | x :: r => (⟨#[2]⟩ ++ headR H r ++ x) :: headsR r
theorem headR_size (hH : ∀ s, (H s).size = 32) : ∀ r, (headR H r).size = 32
  | [] => rfl
  | _ :: _ => hH _
theorem headsR_length : ∀ r, (headsR H r).length = r.length
  | [] => rfl
  | _ :: r => by simp [headsR, headsR_length r]
theorem chain_binding (hH : ∀ s, (H s).size = 32) : ∀ (r q : List ByteArray), r ≠ q → headR H r = headR H q →
    Clash H (headsR H r) (headsR H q) ∨ (r.length < q.length ∧ ∃ x, (headsR H q)[r.length]? = some x ∧ H x = zeros) ∨ (q.length < r.length ∧ ∃ x, (headsR H r)[q.length]? = some x ∧ H x = zeros)
  | [], [], h, _ => absurd rfl h
  | [], y :: q, _, h => .inr (.inl ⟨by simp, _, rfl, h.symm⟩)
  | x :: r, [], _, h => .inr (.inr ⟨by simp, _, rfl, h⟩)
  | x :: r, y :: q, hne, h => by
    by_cases hc : (⟨#[2]⟩ ++ headR H r ++ x : ByteArray) = ⟨#[2]⟩ ++ headR H q ++ y
    · obtain ⟨h1, rfl⟩ := three_inj_left hc (by rw [headR_size H hH, headR_size H hH])
      rcases chain_binding hH r q (fun e => hne (by rw [e])) h1 with h | ⟨hl, z, hz, e⟩ | ⟨hl, z, hz, e⟩
      · exact .inl (Clash.cons H h)
      · exact .inr (.inl ⟨by simpa using hl, z, by simpa [headsR] using hz, e⟩)
      · exact .inr (.inr ⟨by simpa using hl, z, by simpa [headsR] using hz, e⟩)
    · exact .inl (Clash.head H hc h)
end Go.Proofs.YtbaggjhjkignkaaDoor.Tree

