/-
  Repeating events on paper: arcs, lengths, the least starts by rounds of raising, walks; if the rounds do not end, there is a closed walk that is longer than 0.
-/
import Derived.Test.YtiolmcnngpaapaaChecked
namespace Go.Proofs.Ytiolmcnngpaapaa.Cy

structure Arc where
  f : Int
  t : Int
  w : Int
  k : Int
  deriving DecidableEq

def within (n a b : Int) : Bool := decide (a ≤ n) && decide (n ≤ b)
def okArc (n : Int) (a : Arc) : Bool := within a.f 0 (n - 1) && within a.t 0 (n - 1) && within a.w (-1000000) 1000000 && within a.k (-2) 2
def valid (n : Int) (l : List Arc) : Bool := within n 1 32 && decide (l.length ≤ 200) && l.all (okArc n)
def isPer (p : Int) : Bool := within p (-1000000) 1000000
def len (p : Int) (a : Arc) : Int := a.w - p * a.k

/-- Arcs between n nodes whose lengths are bounded. -/
def Grd (n : Nat) (p : Int) (l : List Arc) : Prop := ∀ a ∈ l, 0 ≤ a.f ∧ a.f < n ∧ 0 ≤ a.t ∧ a.t < n ∧ -3000000 ≤ len p a ∧ len p a ≤ 3000000
theorem len_bd {p : Int} {a : Arc} (h1 : -1000000 ≤ a.w ∧ a.w ≤ 1000000) (h2 : -2 ≤ a.k ∧ a.k ≤ 2) (hp : -1000000 ≤ p ∧ p ≤ 1000000) : -3000000 ≤ len p a ∧ len p a ≤ 3000000 := by
  unfold len
  have : a.k = -2 ∨ a.k = -1 ∨ a.k = 0 ∨ a.k = 1 ∨ a.k = 2 := by omega
  rcases this with e | e | e | e | e <;> rw [e] <;> omega
theorem within_iff {n a b : Int} : within n a b = true ↔ a ≤ n ∧ n ≤ b := by simp [within]
theorem okArc_iff {n : Int} {a : Arc} : okArc n a = true ↔ (0 ≤ a.f ∧ a.f < n) ∧ (0 ≤ a.t ∧ a.t < n) ∧ (-1000000 ≤ a.w ∧ a.w ≤ 1000000) ∧ (-2 ≤ a.k ∧ a.k ≤ 2) := by
  simp only [okArc, Bool.and_eq_true, within_iff]; omega
theorem valid_iff {n : Int} {l : List Arc} : valid n l = true ↔ (1 ≤ n ∧ n ≤ 32) ∧ l.length ≤ 200 ∧ ∀ a ∈ l, okArc n a = true := by
  simp only [valid, Bool.and_eq_true, within_iff, decide_eq_true_eq, List.all_eq_true, and_assoc]
theorem valid_good {n : Nat} {l : List Arc} {p : Int} (h : valid n l = true) (hp : isPer p = true) : Grd n p l := by
  intro a ha
  obtain ⟨_, _, h3⟩ := valid_iff.1 h
  obtain ⟨h4, h5, h6, h7⟩ := okArc_iff.1 (h3 a ha)
  have := len_bd h6 h7 (within_iff.1 hp)
  omega

/-! ### raising -/
def stepF (p : Int) (s : List Int × Bool) (a : Arc) : List Int × Bool :=
  if s.1.getD a.t.toNat 0 < s.1.getD a.f.toNat 0 + len p a then (s.1.set a.t.toNat (s.1.getD a.f.toNat 0 + len p a), true) else s
def raise (p : Int) (l : List Arc) (x : List Int) : List Int × Bool := l.foldl (stepF p) (x, false)
def least (p : Int) (l : List Arc) : Nat → List Int → Option (List Int)
  | 0, _ => none
  | k + 1, x => if (raise p l x).2 = true then least p l k (raise p l x).1 else some (raise p l x).1
def iter (p : Int) (l : List Arc) : Nat → List Int → List Int
  | 0, x => x
  | k + 1, x => iter p l k (raise p l x).1

theorem stepF_len (p : Int) (s : List Int × Bool) (a : Arc) : (stepF p s a).1.length = s.1.length := by
  unfold stepF; split <;> simp
theorem fold_len (p : Int) (l : List Arc) : ∀ s : List Int × Bool, (l.foldl (stepF p) s).1.length = s.1.length := by
  induction l with
  | nil => intro s; rfl
  | cons a l ih => intro s; rw [List.foldl_cons, ih, stepF_len]
theorem raise_len (p : Int) (l : List Arc) (x : List Int) : (raise p l x).1.length = x.length := fold_len p l (x, false)
theorem iter_len (p : Int) (l : List Arc) : ∀ k x, (iter p l k x).length = x.length := by
  intro k; induction k with
  | zero => intro x; rfl
  | succ k ih => intro x; rw [iter, ih, raise_len]
theorem getD_set (x : List Int) (i j : Nat) (v : Int) (h : i < x.length) : (x.set i v).getD j 0 = if i = j then v else x.getD j 0 := by
  simp only [List.getD_eq_getElem?_getD, List.getElem?_set]
  split
  · rename_i e; subst e; simp [h]
  · rfl
theorem stepF_ge (p : Int) (s : List Int × Bool) (a : Arc) (ht : a.t.toNat < s.1.length) (j : Nat) : s.1.getD j 0 ≤ (stepF p s a).1.getD j 0 := by
  unfold stepF; split
  · rw [getD_set _ _ _ _ ht]; split
    · rename_i h e; subst e; omega
    · exact Int.le_refl _
  · exact Int.le_refl _
theorem fold_ge (p : Int) (l : List Arc) : ∀ s : List Int × Bool, (∀ a ∈ l, a.t.toNat < s.1.length) → ∀ j, s.1.getD j 0 ≤ (l.foldl (stepF p) s).1.getD j 0 := by
  induction l with
  | nil => intro s _ j; exact Int.le_refl _
  | cons a l ih =>
    intro s h j
    rw [List.foldl_cons]
    exact Int.le_trans (stepF_ge p s a (h a (by simp)) j) (ih _ (fun b hb => by rw [stepF_len]; exact h b (by simp [hb])) j)
theorem fold_arc (p : Int) (l : List Arc) : ∀ s : List Int × Bool, (∀ a ∈ l, a.t.toNat < s.1.length) → ∀ a ∈ l, s.1.getD a.f.toNat 0 + len p a ≤ (l.foldl (stepF p) s).1.getD a.t.toNat 0 := by
  induction l with
  | nil => intro s _ a ha; cases ha
  | cons b l ih =>
    intro s h a ha
    rw [List.foldl_cons]
    have hl : ∀ c ∈ l, c.t.toNat < (stepF p s b).1.length := fun c hc => by rw [stepF_len]; exact h c (by simp [hc])
    rcases List.mem_cons.1 ha with rfl | ha
    · refine Int.le_trans ?_ (fold_ge p l _ hl _)
      unfold stepF; split
      · rw [getD_set _ _ _ _ (h a (by simp)), if_pos rfl]; exact Int.le_refl _
      · omega
    · have := ih _ hl a ha
      have := stepF_ge p s b (h b (by simp)) a.f.toNat
      omega
theorem fold_le (p : Int) (y : Nat → Int) (l : List Arc) : ∀ s : List Int × Bool, (∀ a ∈ l, a.t.toNat < s.1.length) → (∀ a ∈ l, y a.f.toNat + len p a ≤ y a.t.toNat) → (∀ j, j < s.1.length → s.1.getD j 0 ≤ y j) → (∀ a ∈ l, a.f.toNat < s.1.length) →
    ∀ j, j < s.1.length → (l.foldl (stepF p) s).1.getD j 0 ≤ y j := by
  induction l with
  | nil => intro s _ _ h _ j hj; exact h j hj
  | cons a l ih =>
    intro s ht hy hs hf j hj
    rw [List.foldl_cons]
    refine ih _ (fun b hb => by rw [stepF_len]; exact ht b (by simp [hb])) (fun b hb => hy b (by simp [hb])) (fun i hi => ?_) (fun b hb => by rw [stepF_len]; exact hf b (by simp [hb])) j (by rw [stepF_len]; exact hj)
    rw [stepF_len] at hi
    unfold stepF; split
    · rw [getD_set _ _ _ _ (ht a (by simp))]; split
      · rename_i e; subst e
        have := hy a (by simp); have := hs _ (hf a (by simp)); omega
      · exact hs i hi
    · exact hs i hi
theorem fold_flag (p : Int) (l : List Arc) : ∀ s : List Int × Bool, (∀ a ∈ l, a.t.toNat < s.1.length) → s.2 = false → (l.foldl (stepF p) s).2 = true → ∃ j, j < s.1.length ∧ s.1.getD j 0 < (l.foldl (stepF p) s).1.getD j 0 := by
  induction l with
  | nil => intro s _ h1 h2; rw [List.foldl_nil, h1] at h2; cases h2
  | cons a l ih =>
    intro s ht h1 h2
    rw [List.foldl_cons] at h2 ⊢
    have hl : ∀ c ∈ l, c.t.toNat < (stepF p s a).1.length := fun c hc => by rw [stepF_len]; exact ht c (by simp [hc])
    by_cases hc : s.1.getD a.t.toNat 0 < s.1.getD a.f.toNat 0 + len p a
    · refine ⟨a.t.toNat, ht a (by simp), Int.lt_of_lt_of_le hc (Int.le_trans ?_ (fold_ge p l _ hl _))⟩
      unfold stepF; rw [if_pos hc, getD_set _ _ _ _ (ht a (by simp)), if_pos rfl]; exact Int.le_refl _
    · have e : stepF p s a = s := by unfold stepF; rw [if_neg hc]
      rw [e] at h2 hl ⊢
      exact ih s hl h1 h2
theorem fold_still (p : Int) (l : List Arc) : ∀ s : List Int × Bool, (l.foldl (stepF p) s).2 = false → (l.foldl (stepF p) s) = s := by
  induction l with
  | nil => intro s _; rfl
  | cons a l ih =>
    intro s h
    rw [List.foldl_cons] at h ⊢
    have h' := ih _ h
    rw [h'] at h ⊢
    unfold stepF at h ⊢
    split at h <;> rename_i hc
    · simp at h
    · rw [if_neg hc]

def zeros (n : Nat) : List Int := List.replicate n 0
theorem zeros_len (n : Nat) : (zeros n).length = n := by simp [zeros]
theorem zeros_at (n j : Nat) : (zeros n).getD j 0 = 0 := by
  simp only [zeros, List.getD_eq_getElem?_getD, List.getElem?_replicate]; split <;> rfl

/-- The starts x keep all arcs. -/
def Feas (p : Int) (l : List Arc) (x : Nat → Int) : Prop := ∀ a ∈ l, x a.f.toNat + len p a ≤ x a.t.toNat
theorem good_t {n : Nat} {p : Int} {l : List Arc} (h : Grd n p l) {x : List Int} (hx : x.length = n) : ∀ a ∈ l, a.t.toNat < x.length := fun a ha => by have := h a ha; omega
theorem good_f {n : Nat} {p : Int} {l : List Arc} (h : Grd n p l) {x : List Int} (hx : x.length = n) : ∀ a ∈ l, a.f.toNat < x.length := fun a ha => by have := h a ha; omega

theorem least_some {n : Nat} {p : Int} {l : List Arc} (hg : Grd n p l) : ∀ k x s, x.length = n → least p l k x = some s → s.length = n ∧ Feas p l (fun j => s.getD j 0) ∧ (∀ j, x.getD j 0 ≤ s.getD j 0) ∧
    ∀ y : Nat → Int, Feas p l y → (∀ j, j < n → x.getD j 0 ≤ y j) → ∀ j, j < n → s.getD j 0 ≤ y j := by
  intro k; induction k with
  | zero => intro x s _ h; cases h
  | succ k ih =>
    intro x s hx h
    rw [least] at h
    split at h <;> rename_i hc
    · obtain ⟨h1, h2, h3, h4⟩ := ih _ s (by rw [raise_len, hx]) h
      refine ⟨h1, h2, fun j => Int.le_trans (fold_ge p l (x, false) (good_t hg hx) j) (h3 j), fun y hy hxy => h4 y hy (fun j hj => ?_)⟩
      exact fold_le p y l (x, false) (good_t hg hx) hy (fun i hi => hxy i (by rw [← hx]; exact hi)) (good_f hg hx) j (by rw [hx]; exact hj)
    · injection h with h
      have e : raise p l x = (x, false) := fold_still p l (x, false) (by have := hc; unfold raise at this; simpa using this)
      rw [e] at h; simp only at h; subst h
      refine ⟨hx, fun a ha => ?_, fun j => Int.le_refl _, fun y _ hxy j hj => hxy j hj⟩
      have := fold_arc p l (x, false) (good_t hg hx) a ha
      have e2 : l.foldl (stepF p) (x, false) = (x, false) := e
      rw [e2] at this; exact this
theorem least_none {p : Int} {l : List Arc} : ∀ k x, least p l (k + 1) x = none → (raise p l (iter p l k x)).2 = true := by
  intro k; induction k with
  | zero =>
    intro x h; rw [least] at h; split at h
    · rename_i hc; exact hc
    · cases h
  | succ k ih =>
    intro x h; rw [least] at h; split at h
    · exact ih _ h
    · cases h

/-! ### walks -/
def Walk (l : List Arc) : Nat → List Arc → Nat → Prop
  | i, [], j => i = j
  | i, a :: c, j => a ∈ l ∧ a.f.toNat = i ∧ Walk l a.t.toNat c j
def tot (p : Int) : List Arc → Int
  | [] => 0
  | a :: c => len p a + tot p c
theorem tot_append (p : Int) (c d : List Arc) : tot p (c ++ d) = tot p c + tot p d := by
  induction c with
  | nil => simp [tot]
  | cons a c ih => simp only [List.cons_append, tot, ih]; omega
theorem walk_append {l : List Arc} : ∀ {c i m d j}, Walk l i c m → Walk l m d j → Walk l i (c ++ d) j := by
  intro c; induction c with
  | nil => intro i m d j h1 h2; rw [show i = m from h1]; exact h2
  | cons a c ih => intro i m d j h1 h2; exact ⟨h1.1, h1.2.1, ih h1.2.2 h2⟩
theorem walk_split {l : List Arc} : ∀ {c d i j}, Walk l i (c ++ d) j → ∃ m, Walk l i c m ∧ Walk l m d j := by
  intro c; induction c with
  | nil => intro d i j h; exact ⟨i, rfl, h⟩
  | cons a c ih =>
    intro d i j h
    obtain ⟨m, h1, h2⟩ := ih h.2.2
    exact ⟨m, ⟨h.1, h.2.1, h1⟩, h2⟩
theorem walk_one {l : List Arc} : ∀ {c i j k}, Walk l i c j → Walk l i c k → j = k := by
  intro c; induction c with
  | nil => intro i j k h1 h2; exact h1.symm.trans h2
  | cons a c ih => intro i j k h1 h2; exact ih h1.2.2 h2.2.2
theorem feas_walk {p : Int} {l : List Arc} {x : Nat → Int} (h : Feas p l x) : ∀ {c i j}, Walk l i c j → x i + tot p c ≤ x j := by
  intro c; induction c with
  | nil => intro i j h1; rw [show i = j from h1]; simp [tot]
  | cons a c ih =>
    intro i j h1
    have h2 := ih h1.2.2
    have h3 := h a h1.1
    rw [h1.2.1] at h3
    simp only [tot]; omega
theorem iter_walk {n : Nat} {p : Int} {l : List Arc} (hg : Grd n p l) : ∀ {c : List Arc} {r : Nat} {x : List Int} {i j : Nat}, x.length = n → Walk l i c j → c.length ≤ r → x.getD i 0 + tot p c ≤ (iter p l r x).getD j 0 := by
  have up : ∀ (r : Nat) (x : List Int), x.length = n → ∀ j, x.getD j 0 ≤ (iter p l r x).getD j 0 := by
    intro r; induction r with
    | zero => intro x _ j; exact Int.le_refl _
    | succ r ih => intro x hx j; rw [iter]; exact Int.le_trans (fold_ge p l (x, false) (good_t hg hx) j) (ih (raise p l x).1 (by rw [raise_len, hx]) j)
  intro c; induction c with
  | nil => intro r x i j hx h1 _; rw [show i = j from h1]; simp only [tot]; have := up r x hx j; omega
  | cons a c ih =>
    intro r x i j hx h1 hr
    cases r with
    | zero => simp at hr
    | succ r =>
      rw [iter]
      have h2 := ih (r := r) (x := (raise p l x).1) (by rw [raise_len, hx]) h1.2.2 (by simpa using hr)
      have h3 := fold_arc p l (x, false) (good_t hg hx) a h1.1
      rw [h1.2.1] at h3
      simp only [tot]; unfold raise at h2 ⊢; simp only at h3; omega

/-- Each start is the length of a walk. -/
def Att (p : Int) (l : List Arc) (x : List Int) : Prop := ∀ j, j < x.length → ∃ i c, i < x.length ∧ Walk l i c j ∧ tot p c = x.getD j 0
theorem att_step {n : Nat} {p : Int} {l l' : List Arc} (hg : Grd n p l) (hl : ∀ a ∈ l', a ∈ l) : ∀ s : List Int × Bool, s.1.length = n → Att p l s.1 → Att p l (l'.foldl (stepF p) s).1 := by
  induction l' with
  | nil => intro s _ h; exact h
  | cons a l' ih =>
    intro s hs h
    rw [List.foldl_cons]
    refine ih (fun b hb => hl b (by simp [hb])) _ (by rw [stepF_len, hs]) ?_
    unfold stepF; split
    · intro j hj
      simp only [List.length_set] at hj ⊢
      rw [getD_set _ _ _ _ (good_t hg hs a (hl a (by simp)))]
      split
      · rename_i e; subst e
        obtain ⟨i, c, h1, h2, h3⟩ := h _ (good_f hg hs a (hl a (by simp)))
        exact ⟨i, c ++ [a], h1, walk_append h2 ⟨hl a (by simp), rfl, rfl⟩, by rw [tot_append, h3]; simp [tot]⟩
      · exact h j hj
    · exact h
theorem att_iter {n : Nat} {p : Int} {l : List Arc} (hg : Grd n p l) : ∀ k x, x.length = n → Att p l x → Att p l (iter p l k x) := by
  intro k; induction k with
  | zero => intro x _ h; exact h
  | succ k ih => intro x hx h; exact ih _ (by rw [raise_len, hx]) (att_step hg (fun _ h => h) (x, false) hx h)

/-! ### a node twice -/
theorem twice : ∀ (n : Nat) (f : Nat → Nat), (∀ t, t ≤ n → f t < n) → ∃ s t, s < t ∧ t ≤ n ∧ f s = f t := by
  intro n; induction n with
  | zero => intro f h; have := h 0 (Nat.le_refl _); omega
  | succ n ih =>
    intro f h
    by_cases hc : ∃ s, s ≤ n ∧ f s = f (n + 1)
    · obtain ⟨s, h1, h2⟩ := hc; exact ⟨s, n + 1, by omega, Nat.le_refl _, h2⟩
    · have hn : ∀ s, s ≤ n → f s ≠ f (n + 1) := fun s hs e => hc ⟨s, hs, e⟩
      obtain ⟨s, t, h1, h2, h3⟩ := ih (fun t => if f t = n then f (n + 1) else f t) (fun t ht => by
        have h4 := hn t ht; have h5 := h t (by omega); have h6 := h (n + 1) (Nat.le_refl _)
        show (if f t = n then f (n + 1) else f t) < n
        split <;> omega)
      refine ⟨s, t, h1, by omega, ?_⟩
      have h4 := hn s (by omega); have h5 := hn t (by omega)
      split at h3 <;> split at h3 <;> omega
def nodeAt (i : Nat) (c : List Arc) : Nat → Nat
  | 0 => i
  | t + 1 => match c[t]? with | some a => a.t.toNat | none => 0
theorem walk_nodes {l : List Arc} : ∀ {c i j}, Walk l i c j → ∀ t, t ≤ c.length → Walk l i (c.take t) (nodeAt i c t) := by
  intro c; induction c with
  | nil => intro i j h t ht; obtain rfl : t = 0 := (by simpa using ht); exact rfl
  | cons a c ih =>
    intro i j h t ht
    cases t with
    | zero => exact rfl
    | succ t =>
      have := ih h.2.2 t (by simpa using ht)
      refine ⟨h.1, h.2.1, ?_⟩
      have e : nodeAt i (a :: c) (t + 1) = nodeAt a.t.toNat c t := by
        cases t with
        | zero => simp [nodeAt]
        | succ t => simp [nodeAt]
      rw [e]; exact this
theorem node_lt {n : Nat} {p : Int} {l : List Arc} (hg : Grd n p l) {c : List Arc} {i j : Nat} (hi : i < n) (h : Walk l i c j) (t : Nat) (ht : t ≤ c.length) : nodeAt i c t < n := by
  cases t with
  | zero => exact hi
  | succ t =>
    have hm : ∀ a ∈ c, a ∈ l := by
      clear ht hi
      induction c generalizing i with
      | nil => intro a ha; cases ha
      | cons b c ih => intro a ha; rcases List.mem_cons.1 ha with rfl | ha; exact h.1; exact ih h.2.2 a ha
    simp only [nodeAt, List.getElem?_eq_getElem (show t < c.length by omega)]
    have := hg _ (hm _ (List.getElem_mem (show t < c.length by omega))); omega
theorem cut {n : Nat} {p : Int} {l : List Arc} (hg : Grd n p l) {c : List Arc} {i j : Nat} (hi : i < n) (h : Walk l i c j) (hc : n ≤ c.length) :
    ∃ c1 c2 c3 m, c = c1 ++ c2 ++ c3 ∧ m < n ∧ Walk l i c1 m ∧ Walk l m c2 m ∧ Walk l m c3 j ∧ 0 < c2.length ∧ c2.length ≤ n := by
  obtain ⟨s, t, h1, h2, h3⟩ := twice n (nodeAt i c) (fun t ht => node_lt hg hi h t (by omega))
  have ws := walk_nodes h s (by omega)
  have wt := walk_nodes h t (by omega)
  have e1 : c.take t = c.take s ++ (c.take t).drop s := by
    have := List.take_append_drop s (c.take t); rw [List.take_take, Nat.min_eq_left (by omega)] at this; exact this.symm
  rw [e1] at wt
  obtain ⟨m, w1, w2⟩ := walk_split wt
  have hm := walk_one w1 ws
  subst hm
  rw [← h3] at w2
  have e2 : c = c.take s ++ (c.take t).drop s ++ c.drop t := by rw [← e1, List.take_append_drop]
  have h' := h; rw [e2] at h'
  obtain ⟨m', w3, w4⟩ := walk_split h'
  have := walk_one w3 (walk_append ws w2)
  subst this
  refine ⟨_, _, _, nodeAt i c s, e2, node_lt hg hi h s (by omega), ws, w2, w4, ?_, ?_⟩
  · rw [List.length_drop, List.length_take]; omega
  · rw [List.length_drop, List.length_take]; omega
/-- If no closed walk of at most n arcs is longer than 0, each walk has one of less than n arcs beside it that is not shorter. -/
theorem shorten {n : Nat} {p : Int} {l : List Arc} (hg : Grd n p l) (hno : ∀ i c, i < n → Walk l i c i → 0 < c.length → c.length ≤ n → tot p c ≤ 0) :
    ∀ (k : Nat) (c : List Arc) (i j : Nat), c.length ≤ k → i < n → Walk l i c j → ∃ d, Walk l i d j ∧ d.length < n ∧ tot p c ≤ tot p d := by
  intro k; induction k with
  | zero => intro c i j hk hi h; exact ⟨c, h, by omega, Int.le_refl _⟩
  | succ k ih =>
    intro c i j hk hi h
    by_cases hc : n ≤ c.length
    · obtain ⟨c1, c2, c3, m, rfl, hm, w1, w2, w3, h1, h2⟩ := cut hg hi h hc
      simp only [List.length_append] at hk
      obtain ⟨d, h3, h4, h5⟩ := ih (c1 ++ c3) i j (by simp; omega) hi (walk_append w1 w3)
      refine ⟨d, h3, h4, ?_⟩
      have := hno m c2 hm w2 h1 h2
      rw [tot_append] at h5 ⊢; rw [tot_append]; omega
    · exact ⟨c, h, by omega, Int.le_refl _⟩
/-- Duality: if there are no starts, a closed walk of at most n arcs is longer than 0. -/
theorem dual {n : Nat} {p : Int} {l : List Arc} (hg : Grd n p l) (hn : 1 ≤ n) (h : least p l n (zeros n) = none) : ∃ i c, i < n ∧ Walk l i c i ∧ 0 < c.length ∧ c.length ≤ n ∧ 0 < tot p c := by
  refine Classical.byContradiction fun hno => ?_
  have hno' : ∀ i c, i < n → Walk l i c i → 0 < c.length → c.length ≤ n → tot p c ≤ 0 := fun i c h1 h2 h3 h4 => Int.not_lt.1 fun h5 => hno ⟨i, c, h1, h2, h3, h4, h5⟩
  obtain ⟨k, rfl⟩ : ∃ k, n = k + 1 := ⟨n - 1, by omega⟩
  have hr := least_none k _ h
  have hlen : (iter p l k (zeros (k + 1))).length = k + 1 := by rw [iter_len, zeros_len]
  obtain ⟨j, hj, hlt⟩ := fold_flag p l (iter p l k (zeros (k + 1)), false) (good_t hg hlen) rfl hr
  have ha : Att p l (zeros (k + 1)) := fun j hj => ⟨j, [], hj, rfl, by rw [zeros_at]; rfl⟩
  have ha' := att_step hg (fun _ h => h) (iter p l k (zeros (k + 1)), false) hlen (att_iter hg k _ (zeros_len _) ha)
  obtain ⟨i, c, h1, h2, h3⟩ := ha' j (by rw [fold_len]; exact hj)
  rw [fold_len, hlen] at h1
  obtain ⟨d, h4, h5, h6⟩ := shorten hg hno' c.length c i j (Nat.le_refl _) h1 h2
  have h7 := iter_walk hg (r := k) (x := zeros (k + 1)) (zeros_len _) h4 (by omega)
  rw [zeros_at] at h7
  simp only at hlt h3
  omega
end Go.Proofs.Ytiolmcnngpaapaa.Cy

