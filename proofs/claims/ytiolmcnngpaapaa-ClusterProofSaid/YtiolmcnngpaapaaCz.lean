/-
  The greatest lengths of walks by their numbers of arcs; the first cycle of the fewest arcs; what the functions of the package answer, on paper.
-/
import Derived.Test.YtiolmcnngpaapaaCy
namespace Go.Proofs.Ytiolmcnngpaapaa.Cy

def T (p : Int) (l : List Arc) : Nat → Nat → Nat → Int
  | 0, i, j => if i = j then 0 else (-1099511627776)
  | k + 1, i, j => l.foldl (fun m a => if a.f.toNat = i then max m (len p a + T p l k a.t.toNat j) else m) (-1099511627776)

section
variable (g : Arc → Int) (i : Nat)
theorem foldT_ge (l : List Arc) : ∀ m : Int, m ≤ l.foldl (fun m a => if a.f.toNat = i then max m (g a) else m) m := by
  induction l with
  | nil => intro m; exact Int.le_refl _
  | cons a l ih => intro m; rw [List.foldl_cons]; refine Int.le_trans ?_ (ih _); split <;> omega
theorem foldT_mem (l : List Arc) : ∀ (m : Int) (a : Arc), a ∈ l → a.f.toNat = i → g a ≤ l.foldl (fun m a => if a.f.toNat = i then max m (g a) else m) m := by
  induction l with
  | nil => intro m a ha; cases ha
  | cons b l ih =>
    intro m a ha hi
    rw [List.foldl_cons]
    rcases List.mem_cons.1 ha with rfl | ha
    · refine Int.le_trans ?_ (foldT_ge g i l _); rw [if_pos hi]; omega
    · exact ih _ a ha hi
theorem foldT_is (l : List Arc) : ∀ m : Int, l.foldl (fun m a => if a.f.toNat = i then max m (g a) else m) m = m ∨ ∃ a ∈ l, a.f.toNat = i ∧ l.foldl (fun m a => if a.f.toNat = i then max m (g a) else m) m = g a := by
  induction l with
  | nil => intro m; exact .inl rfl
  | cons b l ih =>
    intro m
    rw [List.foldl_cons]
    rcases ih (if b.f.toNat = i then max m (g b) else m) with h | ⟨a, ha, h1, h2⟩
    · rw [h]; split
      · rename_i hb
        rcases Int.le_total m (g b) with hm | hm
        · exact .inr ⟨b, by simp, hb, by omega⟩
        · exact .inl (by omega)
      · exact .inl rfl
    · exact .inr ⟨a, by simp [ha], h1, h2⟩
end
theorem T_succ_ge {p : Int} {l : List Arc} {k : Nat} {a : Arc} (ha : a ∈ l) (j : Nat) : len p a + T p l k a.t.toNat j ≤ T p l (k + 1) a.f.toNat j := by
  rw [T]; exact foldT_mem (fun a => len p a + T p l k a.t.toNat j) _ l _ a ha rfl
theorem T_succ_is {p : Int} {l : List Arc} {k : Nat} (i j : Nat) : T p l (k + 1) i j = (-1099511627776) ∨ ∃ a ∈ l, a.f.toNat = i ∧ T p l (k + 1) i j = len p a + T p l k a.t.toNat j := by
  rw [T]; exact foldT_is (fun a => len p a + T p l k a.t.toNat j) i l _
theorem T_walk {p : Int} {l : List Arc} : ∀ {c i j}, Walk l i c j → tot p c ≤ T p l c.length i j := by
  intro c; induction c with
  | nil => intro i j h; rw [show i = j from h]; simp [T, tot]
  | cons a c ih =>
    intro i j h
    have h1 := ih h.2.2
    have h2 := T_succ_ge (p := p) (k := c.length) h.1 j
    rw [h.2.1] at h2
    simp only [tot, List.length_cons]; omega
theorem T_att {n : Nat} {p : Int} {l : List Arc} (hg : Grd n p l) : ∀ {k : Nat} {i j : Nat}, (-1099511627776) + k * 3000000 < T p l k i j → ∃ c, Walk l i c j ∧ c.length = k ∧ tot p c = T p l k i j := by
  intro k; induction k with
  | zero =>
    intro i j h
    simp only [T] at h ⊢
    split at h
    · rename_i e; exact ⟨[], e, rfl, by rw [if_pos e]; rfl⟩
    · omega
  | succ k ih =>
    intro i j h
    rcases T_succ_is (p := p) (l := l) (k := k) i j with e | ⟨a, ha, h1, h2⟩
    · rw [e] at h; omega
    · have := hg a ha
      obtain ⟨c, h3, h4, h5⟩ := ih (i := a.t.toNat) (j := j) (by rw [h2] at h; push_cast at h; omega)
      exact ⟨a :: c, ⟨ha, h1, h3⟩, by simp [h4], by rw [tot, h5, h2]⟩
theorem T_bd {n : Nat} {p : Int} {l : List Arc} (hg : Grd n p l) : ∀ {k : Nat} {i j : Nat}, (-1099511627776) - k * 3000000 ≤ T p l k i j ∧ T p l k i j ≤ k * 3000000 := by
  intro k; induction k with
  | zero => intro i j; simp only [T]; split <;> constructor <;> omega
  | succ k ih =>
    intro i j
    rcases T_succ_is (p := p) (l := l) (k := k) i j with e | ⟨a, ha, h1, h2⟩
    · rw [e]; constructor <;> omega
    · have := hg a ha
      have h3 := @ih a.t.toNat j
      rw [h2]; constructor <;> (push_cast; omega)

/-! ### the cycle of the fewest arcs -/
def refutesT (p : Int) (l : List Arc) (n k : Nat) : Bool := (List.range n).any fun i => decide (0 < T p l k i i)
theorem refutesT_iff {p : Int} {l : List Arc} {n k : Nat} : refutesT p l n k = true ↔ ∃ i, i < n ∧ 0 < T p l k i i := by simp [refutesT]
theorem refutesT_walk {n : Nat} {p : Int} {l : List Arc} (hg : Grd n p l) (_ : n ≤ 32) {k : Nat} (hk : k ≤ 200) : refutesT p l n k = true ↔ ∃ i c, i < n ∧ Walk l i c i ∧ c.length = k ∧ 0 < tot p c := by
  rw [refutesT_iff]
  constructor
  · rintro ⟨i, hi, h⟩
    obtain ⟨c, h1, h2, h3⟩ := T_att hg (k := k) (i := i) (j := i) (by omega)
    exact ⟨i, c, hi, h1, h2, by omega⟩
  · rintro ⟨i, c, hi, h1, rfl, h3⟩
    exact ⟨i, hi, by have := T_walk (p := p) h1; omega⟩
/-- The number of arcs at which the search ends. -/
def cycLen (p : Int) (l : List Arc) (n : Nat) : Nat → Nat → Nat
  | 0, k => k
  | f + 1, k => if refutesT p l n k = true then k else cycLen p l n f (k + 1)
theorem cycLen_le {p : Int} {l : List Arc} {n : Nat} : ∀ f k, k ≤ cycLen p l n f k ∧ cycLen p l n f k ≤ k + f := by
  intro f; induction f with
  | zero => intro k; simp [cycLen]
  | succ f ih => intro k; rw [cycLen]; split; omega; have := ih (k + 1); omega
theorem cycLen_no {p : Int} {l : List Arc} {n : Nat} : ∀ f k i, k ≤ i → i < cycLen p l n f k → refutesT p l n i = false := by
  intro f; induction f with
  | zero => intro k i h1 h2; simp only [cycLen] at h2; omega
  | succ f ih =>
    intro k i h1 h2; rw [cycLen] at h2; split at h2
    · omega
    · rename_i hc
      by_cases e : i = k
      · subst e; simpa using hc
      · exact ih (k + 1) i (by omega) h2
theorem cycLen_yes {p : Int} {l : List Arc} {n : Nat} : ∀ f k, (∃ i, k ≤ i ∧ i ≤ k + f ∧ refutesT p l n i = true) → refutesT p l n (cycLen p l n f k) = true := by
  intro f; induction f with
  | zero =>
    rintro k ⟨i, h1, h2, h3⟩
    obtain rfl : i = k := by omega
    exact h3
  | succ f ih =>
    rintro k ⟨i, h1, h2, h3⟩; rw [cycLen]; split
    · assumption
    · rename_i hc
      refine ih (k + 1) ⟨i, ?_, by omega, h3⟩
      rcases Nat.lt_or_eq_of_le h1 with h | h
      · exact h
      · subst h; exact absurd h3 hc
/-- The number of the first arc at which a test holds. -/
def firstArc (l : List Arc) (q : Arc → Bool) : Nat := l.findIdx q
/-- May the arc a come next: from the node here, after the length `spent`, with so many arcs left behind it? -/
def fit (p : Int) (l : List Arc) (home here : Nat) (spent : Int) (left : Nat) (a : Arc) : Bool := decide (a.f.toNat = here) && decide (0 < spent + len p a + T p l left a.t.toNat home)
def greedy (p : Int) (l : List Arc) (home : Nat) : Nat → Nat → Int → List Nat
  | 0, _, _ => []
  | k + 1, here, spent => match l[firstArc l (fit p l home here spent k)]? with
    | none => []
    | some a => firstArc l (fit p l home here spent k) :: greedy p l home k a.t.toNat (spent + len p a)
/-- May the arc a be the first one of a cycle with so many arcs behind it? -/
def fit0 (p : Int) (l : List Arc) (left : Nat) (a : Arc) : Bool := decide (0 < len p a + T p l left a.t.toNat a.f.toNat)
def cycleAt (p : Int) (l : List Arc) : Nat → List Nat
  | 0 => []
  | k + 1 => match l[firstArc l (fit0 p l k)]? with
    | none => []
    | some a => firstArc l (fit0 p l k) :: greedy p l a.f.toNat k a.t.toNat (len p a)
def cyc (p : Int) (l : List Arc) (n : Nat) : List Nat := cycleAt p l (cycLen p l n n 0)
def starts (p : Int) (l : List Arc) (n : Nat) : Option (List Int) := least p l n (zeros n)
def lvS (n p : Int) (l : List Arc) : List Int := if valid n l && isPer p then (starts p l n.toNat).getD [] else []
def lvC (n p : Int) (l : List Arc) : List Nat := if valid n l && isPer p && (starts p l n.toNat).isNone then cyc p l n.toNat else []
def lvB (n p : Int) (l : List Arc) : Bool := valid n l && isPer p && (starts p l n.toNat).isSome

/-! ### what the greedy list is -/
def arcsOf (l : List Arc) (c : List Nat) : List Arc := c.filterMap (l[·]?)
theorem find_lt {l : List Arc} {q : Arc → Bool} (h : ∃ a ∈ l, q a = true) : ∃ hk : firstArc l q < l.length, q l[firstArc l q] = true ∧ ∀ i (hi : i < firstArc l q), q (l[i]'(Nat.lt_trans hi hk)) = false := by
  have hk : l.findIdx q < l.length := List.findIdx_lt_length_of_exists h
  exact ⟨hk, List.findIdx_getElem (w := hk), fun i hi => by simpa using List.not_of_lt_findIdx hi⟩
theorem fit_of_T {n : Nat} {p : Int} {l : List Arc} (_ : Grd n p l) {k home here : Nat} {spent : Int} (_ : k ≤ 200) (hs : spent ≤ 600000000) (h : 0 < spent + T p l (k + 1) here home) : ∃ a ∈ l, fit p l home here spent k a = true := by
  rcases T_succ_is (p := p) (l := l) (k := k) here home with e | ⟨a, ha, h1, h2⟩
  · rw [e] at h; omega
  · exact ⟨a, ha, by simp only [fit, Bool.and_eq_true, decide_eq_true_eq]; exact ⟨h1, by omega⟩⟩
theorem fit0_of_T {n : Nat} {p : Int} {l : List Arc} (_ : Grd n p l) {k i : Nat} (_ : k ≤ 200) (h : 0 < T p l (k + 1) i i) : ∃ a ∈ l, fit0 p l k a = true := by
  rcases T_succ_is (p := p) (l := l) (k := k) i i with e | ⟨a, ha, h1, h2⟩
  · rw [e] at h; omega
  · exact ⟨a, ha, by simp only [fit0, decide_eq_true_eq]; rw [h1]; omega⟩
theorem greedy_ok {n : Nat} {p : Int} {l : List Arc} (hg : Grd n p l) (home : Nat) : ∀ (k here : Nat) (spent : Int), k ≤ 200 → spent ≤ (200 - k) * 3000000 → 0 < spent + T p l k here home →
    (greedy p l home k here spent).length = k ∧ (∀ m ∈ greedy p l home k here spent, m < l.length) ∧ Walk l here (arcsOf l (greedy p l home k here spent)) home ∧ 0 < spent + tot p (arcsOf l (greedy p l home k here spent)) := by
  intro k; induction k with
  | zero =>
    intro here spent _ _ h
    simp only [T] at h
    refine ⟨rfl, ?_, ?_, ?_⟩
    · intro m hm; simp [greedy] at hm
    · show here = home
      by_cases e : here = home
      · exact e
      · rw [if_neg e] at h; omega
    · simp only [greedy, arcsOf, List.filterMap_nil, tot]; split at h <;> omega
  | succ k ih =>
    intro here spent hk hs h
    obtain ⟨hlt, hq, -⟩ := find_lt (fit_of_T hg (by omega) (by omega) h)
    simp only [fit, Bool.and_eq_true, decide_eq_true_eq] at hq
    have hb := hg _ (List.getElem_mem hlt)
    obtain ⟨h1, h2, h3, h4⟩ := ih (l[firstArc l (fit p l home here spent k)].t.toNat) (spent + len p l[firstArc l (fit p l home here spent k)]) (by omega) (by push_cast at hs ⊢; omega) hq.2
    have e : greedy p l home (k + 1) here spent = firstArc l (fit p l home here spent k) :: greedy p l home k l[firstArc l (fit p l home here spent k)].t.toNat (spent + len p l[firstArc l (fit p l home here spent k)]) := by
      rw [greedy]; simp only [List.getElem?_eq_getElem hlt]
    have e2 : arcsOf l (greedy p l home (k + 1) here spent) = l[firstArc l (fit p l home here spent k)] :: arcsOf l (greedy p l home k l[firstArc l (fit p l home here spent k)].t.toNat (spent + len p l[firstArc l (fit p l home here spent k)])) := by
      rw [e]; unfold arcsOf; rw [List.filterMap_cons_some (List.getElem?_eq_getElem hlt)]
    refine ⟨by rw [e]; simp [h1], fun m hm => ?_, ?_, ?_⟩
    · rw [e] at hm
      rcases List.mem_cons.1 hm with rfl | hm
      · exact hlt
      · exact h2 m hm
    · rw [e2]; exact ⟨List.getElem_mem hlt, hq.1, h3⟩
    · rw [e2, tot]; omega
theorem cycleAt_ok {n : Nat} {p : Int} {l : List Arc} (hg : Grd n p l) {k i : Nat} (hk : k < 200) (h : 0 < T p l (k + 1) i i) :
    (cycleAt p l (k + 1)).length = k + 1 ∧ (∀ m ∈ cycleAt p l (k + 1), m < l.length) ∧ ∃ v, Walk l v (arcsOf l (cycleAt p l (k + 1))) v ∧ 0 < tot p (arcsOf l (cycleAt p l (k + 1))) := by
  obtain ⟨hlt, hq, -⟩ := find_lt (fit0_of_T hg (by omega) h)
  simp only [fit0, decide_eq_true_eq] at hq
  have hb := hg _ (List.getElem_mem hlt)
  obtain ⟨h1, h2, h3, h4⟩ := greedy_ok hg (l[firstArc l (fit0 p l k)].f.toNat) k (l[firstArc l (fit0 p l k)].t.toNat) (len p l[firstArc l (fit0 p l k)]) (by omega) (by omega) hq
  have e : cycleAt p l (k + 1) = firstArc l (fit0 p l k) :: greedy p l (l[firstArc l (fit0 p l k)].f.toNat) k (l[firstArc l (fit0 p l k)].t.toNat) (len p l[firstArc l (fit0 p l k)]) := by
    rw [cycleAt]; simp only [List.getElem?_eq_getElem hlt]
  have e2 : arcsOf l (cycleAt p l (k + 1)) = l[firstArc l (fit0 p l k)] :: arcsOf l (greedy p l (l[firstArc l (fit0 p l k)].f.toNat) k (l[firstArc l (fit0 p l k)].t.toNat) (len p l[firstArc l (fit0 p l k)])) := by
    rw [e]; unfold arcsOf; rw [List.filterMap_cons_some (List.getElem?_eq_getElem hlt)]
  refine ⟨by rw [e]; simp [h1], fun m hm => ?_, l[firstArc l (fit0 p l k)].f.toNat, ?_, ?_⟩
  · rw [e] at hm
    rcases List.mem_cons.1 hm with rfl | hm
    · exact hlt
    · exact h2 m hm
  · rw [e2]; exact ⟨List.getElem_mem hlt, rfl, h3⟩
  · rw [e2, tot]; exact h4
theorem cyc_ok {n : Nat} {p : Int} {l : List Arc} (hg : Grd n p l) (hn1 : 1 ≤ n) (hn : n ≤ 32) (h : starts p l n = none) :
    1 ≤ (cyc p l n).length ∧ (cyc p l n).length ≤ n ∧ (∀ m ∈ cyc p l n, m < l.length) ∧ ∃ v, Walk l v (arcsOf l (cyc p l n)) v ∧ 0 < tot p (arcsOf l (cyc p l n)) := by
  obtain ⟨i, c, h1, h2, h3, h4, h5⟩ := dual hg hn1 h
  have hy := cycLen_yes (p := p) (l := l) (n := n) n 0 ⟨c.length, by omega, by omega, (refutesT_walk hg hn (by omega)).2 ⟨i, c, h1, h2, rfl, h5⟩⟩
  have hle := cycLen_le (p := p) (l := l) (n := n) n 0
  unfold cyc
  generalize cycLen p l n n 0 = K at *
  cases K with
  | zero =>
    exfalso
    obtain ⟨j, _, h6⟩ := refutesT_iff.1 hy
    simp [T] at h6
  | succ K =>
    obtain ⟨j, _, h6⟩ := refutesT_iff.1 hy
    obtain ⟨h7, h8, h9⟩ := cycleAt_ok hg (k := K) (by omega) h6
    exact ⟨by omega, by omega, h8, h9⟩
/-- Whatever starts there are, a closed walk is not longer than 0. -/
theorem no_both {p : Int} {l : List Arc} {x : Nat → Int} (h : Feas p l x) {c : List Arc} {v : Nat} (hw : Walk l v c v) : tot p c ≤ 0 := by
  have := feas_walk h hw; omega

/-! ### Verify and Refutes -/
def keeps (p : Int) (l : List Arc) (s : List Int) : Bool := l.all fun a => decide (s.getD a.f.toNat 0 + len p a ≤ s.getD a.t.toNat 0)
def verB (n p : Int) (l : List Arc) (s : List Int) : Bool := valid n l && isPer p && decide ((s.length : Int) = n) && s.all (within · 0 1000000000) && keeps p l s
def isNum (m : Nat) (x : Int) : Bool := within x 0 (m - 1)
/-- The arcs of a list of numbers foll each other, the first one behind the node v. -/
def foll (l : List Arc) : Int → List Int → Bool
  | _, [] => true
  | v, x :: c => match l[x.toNat]? with | none => false | some a => decide (a.f = v) && foll l a.t c
def lastTo (l : List Arc) (c : List Int) : Int := match c.getLast? with | none => 0 | some x => match l[x.toNat]? with | none => 0 | some a => a.t
def isCyc (l : List Arc) (c : List Int) : Bool := within c.length 1 200 && c.all (isNum l.length) && foll l (lastTo l c) c
def sumOf (f : Arc → Int) (l : List Arc) (c : List Int) : Int := (c.map fun x => f (l.getD x.toNat ⟨0, 0, 0, 0⟩)).sum
def refB (n p : Int) (l : List Arc) (c : List Int) : Bool := valid n l && isPer p && isCyc l c && decide (0 < sumOf (len p) l c)
end Go.Proofs.Ytiolmcnngpaapaa.Cy

