/-
  Facts on paper: what chapter 15 says of them. No conditions.
-/
import Derived.Test.YtnmjcjkjdbkpnaaDoorWaEnc
namespace Go.Proofs.YtnmjcjkjdbkpnaaDoor.Fc
open Wa.Enc

/-- A fact. -/
structure Fact where
  k : Int
  id : Int
  v : Int
  d : Int
  gone : Bool
  ti : Int
  un : Int
  w : Int
  ot : Int
  lo : Int
  pr : Int
  tl : Int
  ch : Int
  st : Int
  rc : Int
  rv : Int
  va : Int
  pa : Int
  tx : ByteArray
deriving DecidableEq
/-- The number of a field. -/
def get (F : Fact) : Nat → Int
  | 0 => F.id | 1 => F.w | 2 => F.ot | 3 => F.lo | 4 => F.pr | 5 => F.tl | 6 => F.ch | 7 => F.st | 8 => F.rc | 9 => F.rv | 10 => F.ti | 11 => F.un | 12 => F.va | _ => F.pa
def set (F : Fact) (n : Int) : Nat → Fact
  | 0 => { F with id := n } | 1 => { F with w := n } | 2 => { F with ot := n } | 3 => { F with lo := n } | 4 => { F with pr := n } | 5 => { F with tl := n } | 6 => { F with ch := n }
  | 7 => { F with st := n } | 8 => { F with rc := n } | 9 => { F with rv := n } | 10 => { F with ti := n } | 11 => { F with un := n } | 12 => { F with va := n } | _ => { F with pa := n }
/-- Where it stands in memory. -/
def cellOf : Nat → Nat
  | 0 => 1 | 1 => 7 | 2 => 8 | 3 => 9 | 4 => 10 | 5 => 11 | 6 => 12 | 7 => 13 | 8 => 14 | 9 => 15 | 10 => 5 | 11 => 6 | 12 => 16 | _ => 17
theorem get_set (F : Fact) (n : Int) : ∀ x y, x < 14 → y < 14 → get (set F n x) y = if y = x then n else get F y := by
  intro x y hx hy
  have : ∀ x < 14, ∀ y < 14, get (set F n x) y = if y = x then n else get F y := by
    intro x hx
    match x, hx with
    | 0, _ | 1, _ | 2, _ | 3, _ | 4, _ | 5, _ | 6, _ | 7, _ | 8, _ | 9, _ | 10, _ | 11, _ | 12, _ | 13, _ =>
      intro y hy
      match y, hy with
      | 0, _ | 1, _ | 2, _ | 3, _ | 4, _ | 5, _ | 6, _ | 7, _ | 8, _ | 9, _ | 10, _ | 11, _ | 12, _ | 13, _ => rfl
  exact this x hx y hy
theorem set_k (F : Fact) (n : Int) (x : Nat) : (set F n x).k = F.k ∧ (set F n x).v = F.v ∧ (set F n x).d = F.d ∧ (set F n x).gone = F.gone ∧ (set F n x).tx = F.tx := by
  unfold set; split <;> exact ⟨rfl, rfl, rfl, rfl, rfl⟩
theorem ext_get {F G : Fact} (h1 : F.k = G.k) (h2 : F.v = G.v) (h3 : F.d = G.d) (h4 : F.gone = G.gone) (h5 : F.tx = G.tx) (h : ∀ x, x < 14 → get F x = get G x) : F = G := by
  have g0 := h 0 (by decide); have g1 := h 1 (by decide); have g2 := h 2 (by decide); have g3 := h 3 (by decide); have g4 := h 4 (by decide); have g5 := h 5 (by decide); have g6 := h 6 (by decide)
  have g7 := h 7 (by decide); have g8 := h 8 (by decide); have g9 := h 9 (by decide); have g10 := h 10 (by decide); have g11 := h 11 (by decide); have g12 := h 12 (by decide); have g13 := h 13 (by decide)
  cases F; cases G
  simp only [get] at *
  subst h1; subst h2; subst h3; subst h4; subst h5; subst g0; subst g1; subst g2; subst g3; subst g4; subst g5; subst g6; subst g7; subst g8; subst g9; subst g10; subst g11; subst g12; subst g13
  rfl
/-- The fields of a kind, and its key fields. -/
def fieldsL (k : Int) : List Nat :=
  if k = 1 then [0, 1, 5, 6, 7, 8, 9, 10, 11, 12] else if k = 2 then [0, 10, 12] else if k = 3 then [0, 1, 2, 10] else if k = 4 then [1, 3, 4, 10] else if k = 5 then [4] else if k = 6 then [0, 5, 6, 8, 9, 10, 11] else
  if k = 7 then [0, 1, 3, 5, 6, 7, 8, 9, 10, 11, 13] else if k = 8 then [2, 13, 10] else if k = 9 then [0, 5, 6, 10] else if k = 10 then [8, 10, 12] else if k = 11 then [0, 5, 6, 10, 11] else []
def keyL (k : Int) : List Nat := if k = 4 then [1, 10] else if k = 5 then [4] else if k = 8 then [2, 13] else if k = 10 then [8, 10] else [0]
/-- The usual span of a field, and that of a kind. -/
def usualS : Nat → Int × Int
  | 5 => (0, 59) | 6 => (0, 3) | 7 => (0, 39) | 10 => (0, 1000000) | 11 => (0, 1000000) | 12 => (-1000000, 1000000) | 13 => (1, 255) | _ => (1, 1000000)
def exceptS (k : Int) (x : Nat) : Option (Int × Int) :=
  if k = 1 then (if x = 12 then some (-10000000, 10000000) else none) else
  if k = 7 then (if x = 1 ∨ x = 3 ∨ x = 8 ∨ x = 9 then some (0, 1000000) else if x = 5 then some (0, 60) else if x = 6 then some (0, 4) else if x = 7 then some (0, 40) else none) else none
def spanS (k : Int) (x : Nat) : Int × Int := (exceptS k x).getD (usualS x)
def within (n a b : Int) : Bool := decide (n ≥ a) && decide (n ≤ b)
theorem within_iff {n a b : Int} : within n a b = true ↔ a ≤ n ∧ n ≤ b := by unfold within; simp
theorem fields_lt {k : Int} : ∀ x ∈ fieldsL k, x < 14 := by
  unfold fieldsL; repeat' (split)
  all_goals decide
theorem fields_nodup (k : Int) : (fieldsL k).Nodup := by
  unfold fieldsL; repeat' (split)
  all_goals decide
theorem keys_sub {k : Int} (h : 1 ≤ k) (h2 : k ≤ 11) : ∀ x ∈ keyL k, x ∈ fieldsL k := by
  have : k = 1 ∨ k = 2 ∨ k = 3 ∨ k = 4 ∨ k = 5 ∨ k = 6 ∨ k = 7 ∨ k = 8 ∨ k = 9 ∨ k = 10 ∨ k = 11 := by omega
  rcases this with rfl | rfl | rfl | rfl | rfl | rfl | rfl | rfl | rfl | rfl | rfl <;> decide
theorem fields_len (k : Int) : (fieldsL k).length ≤ 11 := by
  unfold fieldsL; repeat' (split)
  all_goals decide
theorem keys_len (k : Int) : (keyL k).length ≤ 2 := by
  unfold keyL; repeat' (split)
  all_goals decide
theorem keys_lt {k : Int} : ∀ x ∈ keyL k, x < 14 := by
  unfold keyL; repeat' (split)
  all_goals decide
theorem span_in {k : Int} {x : Nat} (h : x < 14) : -10000000 ≤ (spanS k x).1 ∧ (spanS k x).2 ≤ 10000000 := by
  have hu : ∀ x < 14, -10000000 ≤ (usualS x).1 ∧ (usualS x).2 ≤ 10000000 := by decide
  unfold spanS exceptS
  repeat' (split)
  all_goals first | exact hu x h | (simp only [Option.getD_some]; decide)
/-- The fact without its fields. -/
def bare (F : Fact) : Fact := ⟨F.k, 0, F.v, F.d, F.gone, 0, 0, 0, 0, 0, 0, 0, 0, 0, 0, 0, 0, 0, F.tx⟩
def zeroL (F : Fact) (l : List Nat) : Fact := l.foldl (fun G x => set G 0 x) F
theorem zero_k (l : List Nat) : ∀ F, (zeroL F l).k = F.k ∧ (zeroL F l).v = F.v ∧ (zeroL F l).d = F.d ∧ (zeroL F l).gone = F.gone ∧ (zeroL F l).tx = F.tx := by
  induction l with
  | nil => intro F; exact ⟨rfl, rfl, rfl, rfl, rfl⟩
  | cons x l ih => intro F; have := set_k F 0 x; have h := ih (set F 0 x); unfold zeroL at h ⊢; rw [List.foldl_cons]; rw [h.1, h.2.1, h.2.2.1, h.2.2.2.1, h.2.2.2.2]; exact this
theorem zero_get (l : List Nat) (hl : ∀ x ∈ l, x < 14) : ∀ F y, y < 14 → get (zeroL F l) y = if y ∈ l then 0 else get F y := by
  induction l with
  | nil => intro F y _; simp [zeroL]
  | cons x l ih =>
    intro F y hy
    have h := ih (fun z hz => hl z (List.mem_cons_of_mem _ hz)) (set F 0 x) y hy
    unfold zeroL at h ⊢
    rw [List.foldl_cons, h, get_set F 0 x y (hl x (by simp)) hy]
    by_cases h1 : y ∈ l <;> by_cases h2 : y = x <;> simp [h1, h2]
def textOK (F : Fact) : Bool := (F.tx.size == 0) || (F.k == 5) && decide (F.tx.size ≤ 8192)
def spansOK (F : Fact) : Bool := (fieldsL F.k).all fun x => within (get F x) (spanS F.k x).1 (spanS F.k x).2
def numsOK (F : Fact) : Bool := spansOK F && decide (zeroL F (fieldsL F.k) = bare F)
def fitsB (F : Fact) : Bool := if F.k = 3 then !(F.w == F.ot) else if F.k = 1 ∨ F.k = 6 ∨ F.k = 7 ∨ F.k = 11 then decide (F.ti ≤ F.un) else true
def validB (F : Fact) : Bool := within F.k 1 11 && within F.v 1 1000000 && within F.d 0 100000 && textOK F && numsOK F && fitsB F
theorem valid_iff {F : Fact} : validB F = true ↔ (1 ≤ F.k ∧ F.k ≤ 11) ∧ (1 ≤ F.v ∧ F.v ≤ 1000000) ∧ (0 ≤ F.d ∧ F.d ≤ 100000) ∧ textOK F = true ∧ spansOK F = true ∧ zeroL F (fieldsL F.k) = bare F ∧ fitsB F = true := by
  unfold validB numsOK
  simp only [Bool.and_eq_true, within_iff, decide_eq_true_eq]
  constructor
  · rintro ⟨⟨⟨⟨⟨a, b⟩, c⟩, d⟩, e, f⟩, g⟩; exact ⟨a, b, c, d, e, f, g⟩
  · rintro ⟨a, b, c, d, e, f, g⟩; exact ⟨⟨⟨⟨⟨a, b⟩, c⟩, d⟩, e, f⟩, g⟩
/-- A number that is encoded. -/
def InR (n : Int) : Prop := -4611686018427387903 ≤ n ∧ n ≤ 4611686018427387903
theorem valid_get {F : Fact} (h : validB F = true) {x : Nat} (hx : x < 14) : -10000000 ≤ get F x ∧ get F x ≤ 10000000 := by
  obtain ⟨-, -, -, -, hs, hz, -⟩ := valid_iff.1 h
  by_cases hm : x ∈ fieldsL F.k
  · unfold spansOK at hs
    have := within_iff.1 (List.all_eq_true.1 hs x hm)
    have := span_in (k := F.k) hx
    omega
  · have h1 := zero_get (fieldsL F.k) fields_lt F x hx
    rw [hz, if_neg hm] at h1
    have h2 : get (bare F) x = 0 := by unfold bare get; split <;> rfl
    omega
theorem valid_zero {F : Fact} (h : validB F = true) {x : Nat} (hx : x < 14) (hm : x ∉ fieldsL F.k) : get F x = 0 := by
  obtain ⟨-, -, -, -, hs, hz, -⟩ := valid_iff.1 h
  have h1 := zero_get (fieldsL F.k) fields_lt F x hx
  rw [hz, if_neg hm] at h1
  have h2 : get (bare F) x = 0 := by unfold bare get; split <;> rfl
  omega
/-- Numbers, one behind the other. -/
def numsB (l : List Int) : List UInt8 := l.flatMap putBytes
theorem numsB_cons (n : Int) (l : List Int) : numsB (n :: l) = putBytes n ++ numsB l := by unfold numsB; rw [List.flatMap_cons]
theorem numsB_append (l m : List Int) : numsB (l ++ m) = numsB l ++ numsB m := by unfold numsB; rw [List.flatMap_append]
def vals (F : Fact) (l : List Nat) : List Int := l.map (get F)
def goneN (F : Fact) : Int := if F.gone then 1 else 0
def headN (F : Fact) : List Int := [F.k, F.v, F.d, goneN F]
def encB (F : Fact) : List UInt8 := numsB (headN F) ++ numsB (vals F (fieldsL F.k)) ++ (if F.k = 5 then pstrBytes F.tx.data.toList else [])
def keyB (F : Fact) : List UInt8 := if validB F then numsB [F.k] ++ numsB (vals F (keyL F.k)) else []
/-- Which of two strings is the greater one, byte by byte. -/
def ltB (a b : List UInt8) : Bool := decide (a < b)
def prevB (F G : Fact) : Bool := if keyB F = [] ∨ keyB F ≠ keyB G then false else if F.v ≠ G.v then decide (F.v > G.v) else ltB (encB G) (encB F)
/-! ### Reading -/
/-- Fields that are read, one after the other: the fact, and the place behind them. -/
def rdL (s : List UInt8) : List Nat → Int → Fact → Option (Fact × Int)
  | [], a, F => some (F, a)
  | x :: l, a, F => if (intV s a).2.2 = 0 then rdL s l (intV s a).2.1 (set F (intV s a).1 x) else none
def zeroF (k v d : Int) : Fact := ⟨k, 0, v, d, false, 0, 0, 0, 0, 0, 0, 0, 0, 0, 0, 0, 0, 0, ⟨#[]⟩⟩
/-- What is said behind the text. -/
def closeR (s : List UInt8) (F : Fact) (g : Int) (a : Int) : Except Int Fact :=
  if a ≠ s.length then .error 10 else if within g 0 1 = false then .error 150 else
  if validB { F with gone := g == 1 } then .ok { F with gone := g == 1 } else .error 150
def textR (s : List UInt8) (F : Fact) (g : Int) (a : Int) : Except Int Fact :=
  if F.k = 5 then (if (strV s a).2.2 = 0 then closeR s { F with tx := ⟨(strV s a).1.toArray⟩ } g (strV s a).2.1 else .error 10) else closeR s F g a
def numsR (s : List UInt8) (k v d g : Int) (a : Int) : Except Int Fact :=
  match rdL s (fieldsL k) a (zeroF k v d) with
  | some (F, a') => textR s F g a'
  | none => .error 10
def headR3 (s : List UInt8) (k v d : Int) (a : Int) : Except Int Fact := if (intV s a).2.2 = 0 then numsR s k v d (intV s a).1 (intV s a).2.1 else .error 10
def headR2 (s : List UInt8) (k v : Int) (a : Int) : Except Int Fact := if (intV s a).2.2 = 0 then headR3 s k v (intV s a).1 (intV s a).2.1 else .error 10
def headR1 (s : List UInt8) (k : Int) (a : Int) : Except Int Fact := if (intV s a).2.2 = 0 then headR2 s k (intV s a).1 (intV s a).2.1 else .error 10
def decR (s : List UInt8) : Except Int Fact :=
  if (intV s 0).2.2 = 0 then (if within (intV s 0).1 1 11 then headR1 s (intV s 0).1 (intV s 0).2.1 else .error 150) else .error 10
end Go.Proofs.YtnmjcjkjdbkpnaaDoor.Fc
