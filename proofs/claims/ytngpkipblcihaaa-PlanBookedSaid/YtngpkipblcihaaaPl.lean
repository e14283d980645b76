/-
  Plans on paper: validity, scenarios, what happens, bookings; and what the laws of layer 8 ask of a run.
-/
import Derived.Test.YtngpkipblcihaaaChecked
namespace Go.Proofs.Ytngpkipblcihaaa.Pl

structure Slot where
  tool : Int
  start : Int
  deriving DecidableEq
structure Stage where
  mn : Int
  mx : Int
  m : Slot
  s : Slot
  deriving DecidableEq
structure Win where
  f : Int
  t : Int
  lim : Int
  deriving DecidableEq
structure Plan where
  entry : Int
  mmin : Int
  mmax : Int
  st : List Stage
  wn : List Win
  deriving DecidableEq
structure Scen where
  dur : List Int
  mv : List Int
  det : Int
  tool : Int
  at_ : Int
  deriving DecidableEq
structure Visit where
  step : Int
  tool : Int
  start : Int
  fin : Int
  deriving DecidableEq

/-! ### validity -/
def within (n a b : Int) : Bool := decide (a ≤ n) && decide (n ≤ b)
def isTool (t : Int) : Bool := within t 0 59
def okSlot (s : Slot) (d : Int) : Bool := isTool s.tool && within s.start 0 (1000000 - d)
def okStage (s : Stage) : Bool := within s.mn 1 s.mx && decide (s.mx ≤ 10000) && decide (s.m.tool ≠ s.s.tool) && okSlot s.m s.mx && okSlot s.s s.mx
def okStages (l : List Stage) : Bool := within (l.length : Int) 1 8 && l.all okStage
def okWin (n : Nat) (w : Win) : Bool := decide (0 ≤ w.f) && decide (w.f < w.t) && decide (w.t < n) && within w.lim 0 1000000
def before (a b : Win) : Bool := decide (a.f < b.f) || (decide (a.f = b.f) && decide (a.t < b.t))
/-- The windows from the k-th on are in order. -/
def okWinsFrom (n : Nat) : Option Win → List Win → Bool
  | _, [] => true
  | none, w :: l => okWin n w && okWinsFrom n (some w) l
  | some v, w :: l => okWin n w && before v w && okWinsFrom n (some w) l
def okWins (l : List Win) (n : Nat) : Bool := decide (l.length ≤ 20) && okWinsFrom n none l
def valid (p : Plan) : Bool := within p.entry 0 1000000 && within p.mmin 0 p.mmax && decide (p.mmax ≤ 10000) && okStages p.st && okWins p.wn p.st.length
def okDurs : List Int → List Stage → Bool
  | [], [] => true
  | d :: D, x :: l => within d x.mn x.mx && okDurs D l
  | _, _ => false
def okFail (tool at_ : Int) : Bool := (decide (tool = -1) && decide (at_ = 0)) || (isTool tool && within at_ 0 1000000)
def okMvs (l : List Int) (p : Plan) : Bool := decide (l.length = p.st.length) && l.all (fun m => within m p.mmin p.mmax)
def possible (p : Plan) (s : Scen) : Bool := valid p && okDurs s.dur p.st && okMvs s.mv p && within s.det p.mmin p.mmax && okFail s.tool s.at_

/-! ### what happens -/
def loses (s : Scen) (x : Slot) (d : Int) : Bool := decide (s.tool = x.tool) && decide (s.at_ < x.start + d)
def slot (x : Stage) (s : Scen) (t m d : Int) : Option Slot :=
  if loses s x.m d = true then
    if s.at_ ≤ t then (if t + m ≤ x.s.start then some x.s else none)
    else if s.at_ < x.m.start then (if max (t + m) s.at_ + s.det ≤ x.s.start then some x.s else none)
    else (if t + m ≤ x.m.start ∧ s.at_ + s.det ≤ x.s.start then some x.s else none)
  else (if t + m ≤ x.m.start then some x.m else none)
def visit0 : Visit := ⟨0, 0, 0, 0⟩
def nth (V : List Visit) (i : Int) : Visit := V.getD i.toNat visit0
def missed (V : List Visit) (w : Win) : Bool := decide ((nth V w.t).start - (nth V w.f).fin > w.lim)
/-- The first window that is missed at stage i, from the k-th on. -/
def firstMiss (V : List Visit) (i : Nat) : List Win → Nat → Option Nat
  | [], _ => none
  | w :: l, k => if w.t = (i : Int) ∧ missed V w = true then some k else firstMiss V i l (k + 1)
structure Res where
  V : List Visit
  kind : Int
  num : Int
  deriving DecidableEq
def runFrom (wn : List Win) (s : Scen) : List Stage → Nat → Int → List Visit → Res
  | [], _, _, V => ⟨V, 0, 0⟩
  | x :: l, i, t, V =>
    match slot x s t (s.mv.getD i 0) (s.dur.getD i 0) with
    | none => ⟨V, 1, i⟩
    | some o =>
      match firstMiss (V ++ [⟨i, o.tool, o.start, o.start + s.dur.getD i 0⟩]) i wn 0 with
      | some k => ⟨V ++ [⟨i, o.tool, o.start, o.start + s.dur.getD i 0⟩], 2, k⟩
      | none => runFrom wn s l (i + 1) (o.start + s.dur.getD i 0) (V ++ [⟨i, o.tool, o.start, o.start + s.dur.getD i 0⟩])
def run (p : Plan) (s : Scen) : Res := runFrom p.wn s p.st 0 p.entry []

/-! ### bookings -/
structure Bk where
  tool : Int
  s : Int
  e : Int
  o : Int
  deriving DecidableEq
def books (l : List Stage) (o : Int) : List Bk := l.flatMap fun x => [⟨x.m.tool, x.m.start, x.m.start + x.mx, o⟩, ⟨x.s.tool, x.s.start, x.s.start + x.mx, o⟩]
def bookings (p : Plan) (o : Int) : List Bk := if valid p && within o 1 1000000 then books p.st o else []

/-! ### what follows -/
theorem within_iff {n a b : Int} : within n a b = true ↔ a ≤ n ∧ n ≤ b := by simp [within]
theorem okSlot_iff {s : Slot} {d : Int} : okSlot s d = true ↔ (0 ≤ s.tool ∧ s.tool ≤ 59) ∧ 0 ≤ s.start ∧ s.start ≤ 1000000 - d := by simp [okSlot, isTool, within_iff]
structure OkStage (x : Stage) : Prop where
  mn : 1 ≤ x.mn
  mx : x.mn ≤ x.mx
  top : x.mx ≤ 10000
  ne : x.m.tool ≠ x.s.tool
  mt : 0 ≤ x.m.tool ∧ x.m.tool ≤ 59
  ms : 0 ≤ x.m.start ∧ x.m.start ≤ 1000000 - x.mx
  st : 0 ≤ x.s.tool ∧ x.s.tool ≤ 59
  ss : 0 ≤ x.s.start ∧ x.s.start ≤ 1000000 - x.mx
theorem okStage_iff {x : Stage} : okStage x = true ↔ OkStage x := by
  simp only [okStage, Bool.and_eq_true, within_iff, okSlot_iff, decide_eq_true_eq]
  exact ⟨fun ⟨⟨⟨⟨h1, h2⟩, h3⟩, h4⟩, h5⟩ => ⟨h1.1, h1.2, h2, h3, h4.1, h4.2, h5.1, h5.2⟩, fun h => ⟨⟨⟨⟨⟨h.mn, h.mx⟩, h.top⟩, h.ne⟩, h.mt, h.ms⟩, h.st, h.ss⟩⟩
structure OkWin (n : Nat) (w : Win) : Prop where
  f : 0 ≤ w.f
  ft : w.f < w.t
  t : w.t < n
  l : 0 ≤ w.lim ∧ w.lim ≤ 1000000
theorem okWin_iff {n : Nat} {w : Win} : okWin n w = true ↔ OkWin n w := by
  simp only [okWin, Bool.and_eq_true, within_iff, decide_eq_true_eq]
  exact ⟨fun ⟨⟨⟨h1, h2⟩, h3⟩, h4⟩ => ⟨h1, h2, h3, h4⟩, fun h => ⟨⟨⟨h.f, h.ft⟩, h.t⟩, h.l⟩⟩
theorem okWinsFrom_all {n : Nat} : ∀ {l : List Win} {v : Option Win}, okWinsFrom n v l = true → ∀ w ∈ l, OkWin n w
  | [], _, _, w, hw => by cases hw
  | x :: l, v, h, w, hw => by
    have h' : okWin n x = true ∧ okWinsFrom n (some x) l = true := by
      cases v <;> simp only [okWinsFrom, Bool.and_eq_true] at h
      · exact h
      · exact ⟨h.1.1, h.2⟩
    rcases List.mem_cons.1 hw with rfl | hw
    · exact okWin_iff.1 h'.1
    · exact okWinsFrom_all h'.2 w hw
structure Valid (p : Plan) : Prop where
  entry : 0 ≤ p.entry ∧ p.entry ≤ 1000000
  mmin : 0 ≤ p.mmin ∧ p.mmin ≤ p.mmax
  mmax : p.mmax ≤ 10000
  len : 1 ≤ p.st.length ∧ p.st.length ≤ 8
  st : ∀ x ∈ p.st, OkStage x
  wlen : p.wn.length ≤ 20
  wn : ∀ w ∈ p.wn, OkWin p.st.length w
  asc : okWinsFrom p.st.length none p.wn = true
theorem valid_iff {p : Plan} : valid p = true ↔ Valid p := by
  simp only [valid, okStages, okWins, Bool.and_eq_true, within_iff, decide_eq_true_eq, List.all_eq_true]
  constructor
  · rintro ⟨⟨⟨⟨h1, h2⟩, h3⟩, h4, h5⟩, h6, h7⟩
    exact ⟨h1, h2, h3, by omega, fun x hx => okStage_iff.1 (h5 x hx), h6, okWinsFrom_all h7, h7⟩
  · intro h
    have := h.len
    exact ⟨⟨⟨⟨h.entry, h.mmin⟩, h.mmax⟩, by omega, fun x hx => okStage_iff.2 (h.st x hx)⟩, h.wlen, h.asc⟩
theorem okDurs_iff : ∀ {D : List Int} {l : List Stage}, okDurs D l = true ↔ D.length = l.length ∧ ∀ i (h : i < l.length), l[i].mn ≤ D.getD i 0 ∧ D.getD i 0 ≤ l[i].mx
  | [], [] => by simp [okDurs]
  | [], x :: l => by simp [okDurs]
  | d :: D, [] => by simp [okDurs]
  | d :: D, x :: l => by
    simp only [okDurs, Bool.and_eq_true, within_iff, okDurs_iff (D := D) (l := l), List.length_cons]
    constructor
    · rintro ⟨h1, h2, h3⟩
      refine ⟨by omega, fun i hi => ?_⟩
      cases i with
      | zero => exact h1
      | succ i => exact h3 i (by omega)
    · rintro ⟨h1, h2⟩
      exact ⟨h2 0 (by omega), by omega, fun i hi => h2 (i + 1) (by omega)⟩
structure Poss (p : Plan) (s : Scen) : Prop where
  v : Valid p
  dlen : s.dur.length = p.st.length
  dur : ∀ i (h : i < p.st.length), p.st[i].mn ≤ s.dur.getD i 0 ∧ s.dur.getD i 0 ≤ p.st[i].mx
  mlen : s.mv.length = p.st.length
  mv : ∀ i, i < p.st.length → p.mmin ≤ s.mv.getD i 0 ∧ s.mv.getD i 0 ≤ p.mmax
  det : p.mmin ≤ s.det ∧ s.det ≤ p.mmax
  fail : (s.tool = -1 ∧ s.at_ = 0) ∨ ((0 ≤ s.tool ∧ s.tool ≤ 59) ∧ 0 ≤ s.at_ ∧ s.at_ ≤ 1000000)
theorem getD_mem {l : List Int} {i : Nat} (h : i < l.length) : l.getD i 0 ∈ l := by
  rw [List.getD_eq_getElem?_getD, List.getElem?_eq_getElem h]; exact List.getElem_mem h
theorem possible_iff {p : Plan} {s : Scen} : possible p s = true ↔ Poss p s := by
  simp only [possible, okMvs, okFail, isTool, Bool.and_eq_true, Bool.or_eq_true, within_iff, decide_eq_true_eq, List.all_eq_true, valid_iff, okDurs_iff]
  constructor
  · rintro ⟨⟨⟨⟨h1, h2, h3⟩, h4, h5⟩, h6⟩, h7⟩
    exact ⟨h1, h2, h3, h4, fun i hi => h5 _ (getD_mem (by omega)), h6, h7⟩
  · intro h
    refine ⟨⟨⟨⟨h.v, h.dlen, h.dur⟩, h.mlen, fun m hm => ?_⟩, h.det⟩, h.fail⟩
    obtain ⟨i, hi, rfl⟩ := List.mem_iff_getElem.1 hm
    have := h.mv i (by have := h.mlen; omega)
    rwa [List.getD_eq_getElem?_getD, List.getElem?_eq_getElem hi] at this

/-- What holds of a slot that is found. -/
theorem slot_some {x : Stage} {s : Scen} {t m d : Int} {o : Slot} (hd : 0 ≤ s.det) (h : slot x s t m d = some o) :
    t + m ≤ o.start ∧ ((o = x.m ∧ ¬ (s.tool = x.m.tool ∧ s.at_ < x.m.start + d)) ∨ (o = x.s ∧ s.tool = x.m.tool ∧ s.at_ < x.m.start + d)) := by
  unfold slot loses at h
  simp only [Bool.and_eq_true, decide_eq_true_eq] at h
  split at h
  · rename_i hl
    split at h
    · split at h
      · cases h; exact ⟨by assumption, .inr ⟨rfl, hl⟩⟩
      · cases h
    · split at h
      · split at h
        · cases h; exact ⟨by omega, .inr ⟨rfl, hl⟩⟩
        · cases h
      · split at h
        · cases h; exact ⟨by omega, .inr ⟨rfl, hl⟩⟩
        · cases h
  · rename_i hl
    split at h
    · cases h; exact ⟨by assumption, .inl ⟨rfl, hl⟩⟩
    · cases h
/-- Shorter moves do no harm. -/
theorem slot_mono {x : Stage} {s s' : Scen} {t m m' d : Int} {o : Slot} (h1 : s'.tool = s.tool) (h2 : s'.at_ = s.at_) (hm : m' ≤ m) (hd : s'.det ≤ s.det) (h : slot x s t m d = some o) : slot x s' t m' d = some o := by
  have e : loses s' x.m d = loses s x.m d := by unfold loses; rw [h1, h2]
  unfold slot at h ⊢
  rw [e, h2]
  split at h
  · rename_i hl
    rw [if_pos hl]
    split at h
    · rename_i ha
      rw [if_pos ha]
      split at h
      · rw [if_pos (by omega)]; exact h
      · cases h
    · rename_i ha
      rw [if_neg ha]
      split at h
      · rename_i hb
        rw [if_pos hb]
        split at h
        · rw [if_pos (by omega)]; exact h
        · cases h
      · rename_i hb
        rw [if_neg hb]
        split at h
        · rw [if_pos (by omega)]; exact h
        · cases h
  · rename_i hl
    rw [if_neg hl]
    split at h
    · rw [if_pos (by omega)]; exact h
    · cases h
theorem run_mono {wn : List Win} {s s' : Scen} (h1 : s'.tool = s.tool) (h2 : s'.at_ = s.at_) (h3 : s'.dur = s.dur) (hd : s'.det ≤ s.det) : ∀ (l : List Stage) (i : Nat) (t : Int) (V : List Visit), (∀ k, k < i + l.length → s'.mv.getD k 0 ≤ s.mv.getD k 0) →
    (runFrom wn s l i t V).kind = 0 → runFrom wn s' l i t V = runFrom wn s l i t V
  | [], _, _, _, _, _ => rfl
  | x :: l, i, t, V, hm, hk => by
    unfold runFrom at hk ⊢
    rw [h3]
    cases hs : slot x s t (s.mv.getD i 0) (s.dur.getD i 0) with
    | none => rw [hs] at hk; simp at hk
    | some o =>
      rw [hs] at hk
      rw [slot_mono h1 h2 (hm i (by simp)) hd hs]
      simp only at hk ⊢
      cases hf : firstMiss (V ++ [⟨i, o.tool, o.start, o.start + s.dur.getD i 0⟩]) i wn 0 with
      | some k => rfl
      | none =>
        rw [hf] at hk
        simp only at hk ⊢
        exact run_mono h1 h2 h3 hd l (i + 1) _ _ (fun k hk' => hm k (by simp; omega)) hk
/-- The same slots, the same run. -/
theorem run_same {wn : List Win} {s s' : Scen} (h3 : s'.dur = s.dur) : ∀ (l : List Stage) (i : Nat) (t : Int) (V : List Visit), (∀ k (h : k < l.length) t, slot l[k] s' t (s'.mv.getD (i + k) 0) (s.dur.getD (i + k) 0) = slot l[k] s t (s.mv.getD (i + k) 0) (s.dur.getD (i + k) 0)) →
    runFrom wn s' l i t V = runFrom wn s l i t V
  | [], _, _, _, _ => rfl
  | x :: l, i, t, V, h => by
    unfold runFrom
    rw [h3, show slot x s' t (s'.mv.getD i 0) (s.dur.getD i 0) = slot x s t (s.mv.getD i 0) (s.dur.getD i 0) from h 0 (by simp) t]
    cases slot x s t (s.mv.getD i 0) (s.dur.getD i 0) with
    | none => rfl
    | some o =>
      simp only
      cases firstMiss (V ++ [⟨i, o.tool, o.start, o.start + s.dur.getD i 0⟩]) i wn 0 with
      | some k => rfl
      | none =>
        simp only
        refine run_same h3 l (i + 1) _ _ (fun k hk t => ?_)
        have := h (k + 1) (by simp; omega) t
        rw [show i + 1 + k = i + (k + 1) by omega]
        exact this
end Go.Proofs.Ytngpkipblcihaaa.Pl
