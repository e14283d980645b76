/-
  Flows on paper: numerals, words, lists, spans: what is printed is read as what it was.
-/
import Derived.Test.YtcaclijkkbhfhaaGreatDoorFl
namespace Go.Proofs.YtcaclijkkbhfhaaGreatDoor.Fl
open Go.Lib

def isDig (b : UInt8) : Prop := 48 ≤ b.toNat ∧ b.toNat ≤ 57
theorem ofNat_dig {k : Nat} (h : k < 10) : (UInt8.ofNat (48 + k)).toNat = 48 + k := by
  rw [UInt8.toNat_ofNat']; omega
theorem dec_dig (u : Nat) : ∀ b ∈ decDigits u, isDig b := by
  induction u using Nat.strongRecOn with
  | _ u ih =>
    intro b hb
    rw [decDigits] at hb
    split at hb
    · rename_i h; rw [List.mem_singleton] at hb; subst hb; unfold isDig; rw [ofNat_dig h]; omega
    · rename_i h
      rcases List.mem_append.1 hb with hb | hb
      · exact ih (u / 10) (by omega) b hb
      · rw [List.mem_singleton] at hb; subst hb; unfold isDig; rw [ofNat_dig (by omega)]; omega
theorem decFrom_append : ∀ (l r : List UInt8) (acc : Nat), decFrom acc (l ++ r) = (decFrom acc l).bind fun a => decFrom a r
  | [], _, _ => rfl
  | b :: l, r, acc => by
    simp only [List.cons_append, decFrom]
    cases digitVal b with
    | none => rfl
    | some d => exact decFrom_append l r _
theorem digitVal_of {k : Nat} (h : k < 10) : digitVal (UInt8.ofNat (48 + k)) = some k := by
  unfold digitVal; rw [ofNat_dig h, if_pos (by omega)]; congr 1; omega
theorem decFrom_dec (u : Nat) : decFrom 0 (decDigits u) = some u := by
  induction u using Nat.strongRecOn with
  | _ u ih =>
    rw [decDigits]
    split
    · rename_i h; simp only [decFrom, digitVal_of h]; congr 1; omega
    · rename_i h
      rw [decFrom_append, ih (u / 10) (by omega)]
      simp only [Option.bind, decFrom, digitVal_of (by omega : u % 10 < 10)]
      congr 1; omega
theorem dec_ne (u : Nat) : decDigits u ≠ [] := by
  intro h; have := decDigits_length u; rw [h] at this; have := nDigits_pos u; simp at *; omega
theorem nDigits_le : ∀ (k u : Nat), u < 10 ^ (k + 1) → nDigits u ≤ k + 1
  | 0, u, h => by rw [nDigits_small (by omega)]; omega
  | k + 1, u, h => by
    by_cases h1 : u < 10
    · rw [nDigits_small h1]; omega
    · rw [nDigits_big h1]
      have := nDigits_le k (u / 10) (by rw [Nat.pow_succ] at h; omega)
      omega
theorem itoa_pos {n : Int} (h : 0 ≤ n) : itoa n = decDigits n.toNat := by unfold itoa; rw [if_neg (by omega)]
theorem itoa_dig {n : Int} (h : 0 ≤ n) : ∀ b ∈ itoa n, isDig b := by rw [itoa_pos h]; exact dec_dig _
theorem itoa_ne (n : Int) : itoa n ≠ [] := by
  unfold itoa; split
  · simp
  · exact dec_ne _
theorem itoa_length_le {n : Int} {k : Nat} (h : 0 ≤ n) (h' : n < 10 ^ (k + 1)) : (itoa n).length ≤ k + 1 := by
  rw [itoa_pos h, decDigits_length]
  refine nDigits_le k _ ?_
  have : ((n.toNat : Nat) : Int) < ((10 ^ (k + 1) : Nat) : Int) := by rw [Int.toNat_of_nonneg h]; push_cast; exact h'
  exact Int.ofNat_lt.1 this
theorem itoa_no {n : Int} (h : 0 ≤ n) {c : UInt8} (hc : c.toNat < 48 ∨ 57 < c.toNat) : c ∉ itoa n := by
  intro hm; have := itoa_dig h _ hm; unfold isDig at this; omega
theorem decNat_dec (u : Nat) : decNat (decDigits u) = some u := by
  unfold decNat
  rw [if_neg (by simpa using dec_ne u)]; exact decFrom_dec u
theorem atoi_itoa {n : Int} (h : 0 ≤ n) (h' : n ≤ 1000000000) : atoiAll (itoa n) = .ok n := by
  have hl : (itoa n).length ≤ 10 := itoa_length_le (k := 9) h (by omega)
  rw [atoiAll_short _ (by omega)]
  suffices e : atoi (itoa n) = some n by rw [e]; rfl
  rw [itoa_pos h]
  cases hl : decDigits n.toNat with
  | nil => exact absurd hl (dec_ne _)
  | cons b r =>
    have hb := dec_dig n.toNat b (by rw [hl]; simp)
    have h1 : (b == 45) = false := by rw [beq_eq_false_iff_ne]; rintro rfl; revert hb; unfold isDig; decide
    have h2 : (b == 43) = false := by rw [beq_eq_false_iff_ne]; rintro rfl; revert hb; unfold isDig; decide
    simp only [atoi, h1, h2, Bool.false_eq_true, if_false]
    rw [← hl, decNat_dec]
    simp; omega
theorem number_itoa {n : Int} (h : 0 ≤ n) (h' : n ≤ 1000000000) : number (itoa n) = some n := by
  unfold number; rw [atoi_itoa h h']; simp [h]
theorem number_is {w : List UInt8} {n : Int} (h : number w = some n) : 0 ≤ n ∧ itoa n = w := by
  unfold number at h
  split at h
  · split at h
    · rename_i hv; injection h with h; subst h; exact hv
    · cases h
  · cases h

/-! ### cutting at a byte -/
theorem occ_cons (a : UInt8) (s : List UInt8) (i : Nat) : occAt s [a] i = true ↔ s[i]? = some a := by
  unfold occAt
  rw [List.isPrefixOf_iff_prefix]
  cases h : s.drop i with
  | nil =>
    have : s[i]? = none := by rw [List.getElem?_eq_none_iff]; simpa using h
    simp [this]
  | cons x r =>
    have : s[i]? = some x := by rw [← List.head?_drop, h]; rfl
    rw [this]; simp [eq_comm]
theorem index_none {s : List UInt8} {c : UInt8} (h : c ∉ s) : index s [c] = -1 := by
  rcases index_spec s [c] with ⟨h1, _⟩ | ⟨i, _, _, h3, _⟩
  · exact h1
  · exact absurd (List.mem_of_getElem? ((occ_cons _ _ _).1 h3)) h
theorem index_some {a b : List UInt8} {c : UInt8} (h : c ∉ a) : index (a ++ c :: b) [c] = (a.length : Int) := by
  refine index_first (by simp) ((occ_cons _ _ _).2 (by simp)) ?_
  intro j hj
  rw [Bool.eq_false_iff]; intro hh
  have := (occ_cons _ _ _).1 hh
  rw [List.getElem?_append_left hj] at this
  exact h (List.mem_of_getElem? this)
theorem cut_none {s : List UInt8} {c : UInt8} (h : c ∉ s) : cut s [c] = (s, [], false) := by
  unfold cut; rw [index_none h, if_neg (by omega)]
theorem cut_some {a b : List UInt8} {c : UInt8} (h : c ∉ a) : cut (a ++ c :: b) [c] = (a, b, true) := by
  unfold cut
  rw [index_some h, if_pos (by omega)]
  simp
/-- A list is cut at its first c, or has none. -/
theorem cut_cases (s : List UInt8) (c : UInt8) : (c ∉ s ∧ cut s [c] = (s, [], false)) ∨ ∃ a b, c ∉ a ∧ s = a ++ c :: b ∧ cut s [c] = (a, b, true) := by
  by_cases h : c ∈ s
  · obtain ⟨a, b, e, hn⟩ := List.append_of_mem h |> fun _ => List.eq_append_cons_of_mem h
    exact .inr ⟨a, b, hn, e, by rw [e]; exact cut_some hn⟩
  · exact .inl ⟨h, cut_none h⟩
theorem cut_two {a b : List UInt8} (ha : (46 : UInt8) ∉ a) : cut (a ++ [46, 46] ++ b) [46, 46] = (a, b, true) := by
  have hi : index (a ++ [46, 46] ++ b) [46, 46] = (a.length : Int) := by
    refine index_first (by simp) ?_ ?_
    · unfold occAt; rw [List.append_assoc, List.drop_left]; rfl
    · intro j hj
      rw [Bool.eq_false_iff]; intro hh
      unfold occAt at hh
      rw [List.isPrefixOf_iff_prefix] at hh
      obtain ⟨t, ht⟩ := hh
      have : (a ++ [46, 46] ++ b)[j]? = some 46 := by rw [← List.head?_drop, ← ht]; rfl
      rw [List.append_assoc, List.getElem?_append_left hj] at this
      exact ha (List.mem_of_getElem? this)
  unfold cut
  rw [hi, if_pos (by omega)]
  simp
theorem cut_two_is {w : List UInt8} (h : (cut w [46, 46]).2.2 = true) : (cut w [46, 46]).1 ++ [46, 46] ++ (cut w [46, 46]).2.1 = w := by
  unfold cut at h ⊢
  split at h
  · rename_i hi
    rw [if_pos hi]
    rcases index_spec w [46, 46] with ⟨h1, _⟩ | ⟨i, h1, h2, h3, _⟩
    · omega
    · rw [h1] at hi ⊢
      simp only [Int.toNat_natCast]
      unfold occAt at h3
      rw [List.isPrefixOf_iff_prefix] at h3
      obtain ⟨t, ht⟩ := h3
      have : w = w.take i ++ w.drop i := (List.take_append_drop i w).symm
      have h4 : w.drop (i + 2) = t := by
        rw [← List.drop_drop, ← ht]; rfl
      show List.take i w ++ [46, 46] ++ List.drop (i + 2) w = w
      rw [h4, List.append_assoc, ht]; exact this.symm
  · cases h

/-! ### words -/
/-- The rest that some words are. -/
def restOf : List (List UInt8) → Rest
  | [] => none
  | ws => some (join ws [32])
theorem join_two (w x : List UInt8) (ws : List (List UInt8)) (c : UInt8) : join (w :: x :: ws) [c] = w ++ c :: join (x :: ws) [c] := by
  rw [join_cons, join_cons]; simp [joinTail]
theorem word_of {α} (w : List UInt8) (ws : List (List UInt8)) (h : (32 : UInt8) ∉ w) (k : List UInt8 → Rest → Option α) : word (some (join (w :: ws) [32])) k = k w (restOf ws) := by
  cases ws with
  | nil => simp [word, join_one, cut_none h, restOf]
  | cons x ws => simp [word, join_two, cut_some h, restOf]
theorem word_rest {α} (w : List UInt8) (ws : List (List UInt8)) (h : (32 : UInt8) ∉ w) (k : List UInt8 → Rest → Option α) : word (restOf (w :: ws)) k = k w (restOf ws) := word_of w ws h k
theorem skip_rest {α} (w : List UInt8) (ws : List (List UInt8)) (h : (32 : UInt8) ∉ w) (k : Rest → Option α) : skip w (restOf (w :: ws)) k = k (restOf ws) := by
  unfold skip; rw [word_rest w ws h]; simp
theorem num_rest {α} {n : Int} (h : 0 ≤ n) (h' : n ≤ 1000000000) (ws : List (List UInt8)) (k : Int → Rest → Option α) : num (restOf (itoa n :: ws)) k = k n (restOf ws) := by
  unfold num; rw [word_rest _ _ (itoa_no h (by decide)), number_itoa h h']; rfl
theorem span_no {a b : Int} (ha : 0 ≤ a) (hb : 0 ≤ b) {c : UInt8} (hc : c.toNat < 46 ∨ 57 < c.toNat) : c ∉ span a b := by
  unfold span
  intro h
  have h46 : c ≠ 46 := by rintro rfl; revert hc; decide
  simp only [List.mem_append, List.mem_cons, List.not_mem_nil, or_false] at h
  rcases h with (h | h | h) | h
  · exact itoa_no ha (by omega) h
  · exact h46 h
  · exact h46 h
  · exact itoa_no hb (by omega) h
theorem two_rest {α} {a b : Int} (ha : 0 ≤ a) (ha' : a ≤ 1000000000) (hb : 0 ≤ b) (hb' : b ≤ 1000000000) (ws : List (List UInt8)) (k : Int → Int → Rest → Option α) : two (restOf (span a b :: ws)) k = k a b (restOf ws) := by
  unfold two
  rw [word_rest _ _ (span_no ha hb (by decide))]
  unfold span
  rw [cut_two (itoa_no ha (by decide))]
  simp [number_itoa ha ha', number_itoa hb hb']

/-! ### lists of numbers -/
theorem splitK_join : ∀ (k : Nat) (w : List UInt8) (ws : List (List UInt8)), ws.length ≤ k → (∀ x ∈ w :: ws, (44 : UInt8) ∉ x) → splitK [44] 0 k (join (w :: ws) [44]) = w :: ws
  | 0, w, ws, h, hn => by
    obtain rfl : ws = [] := List.eq_nil_of_length_eq_zero (by omega)
    rw [join_one]; rfl
  | k + 1, w, [], h, hn => by
    rw [join_one]; unfold splitK
    rw [index_none (hn w (by simp))]; rfl
  | k + 1, w, x :: ws, h, hn => by
    rw [join_two]; unfold splitK
    have hi := index_some (a := w) (b := join (x :: ws) [44]) (hn w (by simp))
    rw [hi]
    have : ((w.length : Int) == -1) = false := by rw [beq_eq_false_iff_ne]; omega
    rw [this]
    simp only [Bool.false_eq_true, if_false, Int.toNat_natCast]
    have e1 : List.take (w.length + 0) (w ++ 44 :: join (x :: ws) [44]) = w := by simp
    have e2 : List.drop (w.length + [(44 : UInt8)].length) (w ++ 44 :: join (x :: ws) [44]) = join (x :: ws) [44] := by simp
    rw [e1, e2, splitK_join k x ws (by simp at h; omega) (fun y hy => hn y (List.mem_cons_of_mem _ hy))]
end Go.Proofs.YtcaclijkkbhfhaaGreatDoor.Fl
