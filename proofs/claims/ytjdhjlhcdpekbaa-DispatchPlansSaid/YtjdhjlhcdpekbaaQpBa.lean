/-
  Plans on paper: validity, scenarios, what happens, bookings; and what the laws of layer 8 ask of a run.
  What holds at the end of a run; a run that is later by some minutes.
  The numbers of the visits of a run keep within bounds.
  Plans in memory: rows of records of integers; the value of a plan, of a scenario.
  Contracts of package plan's small functions.
  Contracts of cmp.Compare and cmp.Or at integers, and of compareWindows.
-/
import Derived.Test.YtjdhjlhcdpekbaaChecked
import Derived.Test.YtjdhjlhcdpekbaaBase
import Derived.StillTailTactics
namespace Go.Proofs.Ytjdhjlhcdpekbaa.Pe.Pl

structure Slot where
  tool : Int
  start : Int
  deriving DecidableEq
structure Stage where
  mn : Int
  mx : Int
  m : Slot
  s : Slot
  deriving DecidableEq
structure Win where
  f : Int
  t : Int
  lim : Int
  deriving DecidableEq
structure Plan where
  entry : Int
  mmin : Int
  mmax : Int
  st : List Stage
  wn : List Win
  deriving DecidableEq
structure Scen where
  dur : List Int
  mv : List Int
  det : Int
  tool : Int
  at_ : Int
  deriving DecidableEq
structure Visit where
  step : Int
  tool : Int
  start : Int
  fin : Int
  deriving DecidableEq

/-! ### validity -/
def within (n a b : Int) : Bool := decide (a ≤ n) && decide (n ≤ b)
def isTool (t : Int) : Bool := within t 0 59
def okSlot (s : Slot) (d : Int) : Bool := isTool s.tool && within s.start 0 (1000000 - d)
def okStage (s : Stage) : Bool := within s.mn 1 s.mx && decide (s.mx ≤ 10000) && decide (s.m.tool ≠ s.s.tool) && okSlot s.m s.mx && okSlot s.s s.mx
def okStages (l : List Stage) : Bool := within (l.length : Int) 1 8 && l.all okStage
def okWin (n : Nat) (w : Win) : Bool := decide (0 ≤ w.f) && decide (w.f < w.t) && decide (w.t < n) && within w.lim 0 1000000
def before (a b : Win) : Bool := decide (a.f < b.f) || (decide (a.f = b.f) && decide (a.t < b.t))
/-- The windows from the k-th on are in order. -/
def okWinsFrom (n : Nat) : Option Win → List Win → Bool
  | _, [] => true
  | none, w :: l => okWin n w && okWinsFrom n (some w) l
  | some v, w :: l => okWin n w && before v w && okWinsFrom n (some w) l
def okWins (l : List Win) (n : Nat) : Bool := decide (l.length ≤ 20) && okWinsFrom n none l
def valid (p : Plan) : Bool := within p.entry 0 1000000 && within p.mmin 0 p.mmax && decide (p.mmax ≤ 10000) && okStages p.st && okWins p.wn p.st.length
def okDurs : List Int → List Stage → Bool
  | [], [] => true
  | d :: D, x :: l => within d x.mn x.mx && okDurs D l
  | _, _ => false
def okFail (tool at_ : Int) : Bool := (decide (tool = -1) && decide (at_ = 0)) || (isTool tool && within at_ 0 1000000)
def okMvs (l : List Int) (p : Plan) : Bool := decide (l.length = p.st.length) && l.all (fun m => within m p.mmin p.mmax)
def possible (p : Plan) (s : Scen) : Bool := valid p && okDurs s.dur p.st && okMvs s.mv p && within s.det p.mmin p.mmax && okFail s.tool s.at_

/-! ### what happens -/
def loses (s : Scen) (x : Slot) (d : Int) : Bool := decide (s.tool = x.tool) && decide (s.at_ < x.start + d)
def slot (x : Stage) (s : Scen) (t m d : Int) : Option Slot :=
  if loses s x.m d = true then
    if s.at_ ≤ t then (if t + m ≤ x.s.start then some x.s else none)
    else if s.at_ < x.m.start then (if max (t + m) s.at_ + s.det ≤ x.s.start then some x.s else none)
    else (if t + m ≤ x.m.start ∧ s.at_ + s.det ≤ x.s.start then some x.s else none)
  else (if t + m ≤ x.m.start then some x.m else none)
def visit0 : Visit := ⟨0, 0, 0, 0⟩
def nth (V : List Visit) (i : Int) : Visit := V.getD i.toNat visit0
def missed (V : List Visit) (w : Win) : Bool := decide ((nth V w.t).start - (nth V w.f).fin > w.lim)
/-- The first window that is missed at stage i, from the k-th on. -/
def firstMiss (V : List Visit) (i : Nat) : List Win → Nat → Option Nat
  | [], _ => none
  | w :: l, k => if w.t = (i : Int) ∧ missed V w = true then some k else firstMiss V i l (k + 1)
structure Res where
  V : List Visit
  kind : Int
  num : Int
  deriving DecidableEq
def runFrom (wn : List Win) (s : Scen) : List Stage → Nat → Int → List Visit → Res
  | [], _, _, V => ⟨V, 0, 0⟩
  | x :: l, i, t, V =>
    match slot x s t (s.mv.getD i 0) (s.dur.getD i 0) with
    | none => ⟨V, 1, i⟩
    | some o =>
      match firstMiss (V ++ [⟨i, o.tool, o.start, o.start + s.dur.getD i 0⟩]) i wn 0 with
      | some k => ⟨V ++ [⟨i, o.tool, o.start, o.start + s.dur.getD i 0⟩], 2, k⟩
      | none => runFrom wn s l (i + 1) (o.start + s.dur.getD i 0) (V ++ [⟨i, o.tool, o.start, o.start + s.dur.getD i 0⟩])
def run (p : Plan) (s : Scen) : Res := runFrom p.wn s p.st 0 p.entry []

/-! ### bookings -/
structure Bk where
  tool : Int
  s : Int
  e : Int
  o : Int
  deriving DecidableEq
def books (l : List Stage) (o : Int) : List Bk := l.flatMap fun x => [⟨x.m.tool, x.m.start, x.m.start + x.mx, o⟩, ⟨x.s.tool, x.s.start, x.s.start + x.mx, o⟩]
def bookings (p : Plan) (o : Int) : List Bk := if valid p && within o 1 1000000 then books p.st o else []

/-! ### what follows -/
theorem within_iff {n a b : Int} : within n a b = true ↔ a ≤ n ∧ n ≤ b := by simp [within]
theorem okSlot_iff {s : Slot} {d : Int} : okSlot s d = true ↔ (0 ≤ s.tool ∧ s.tool ≤ 59) ∧ 0 ≤ s.start ∧ s.start ≤ 1000000 - d := by simp [okSlot, isTool, within_iff]
structure OkStage (x : Stage) : Prop where
  mn : 1 ≤ x.mn
  mx : x.mn ≤ x.mx
  top : x.mx ≤ 10000
  ne : x.m.tool ≠ x.s.tool
  mt : 0 ≤ x.m.tool ∧ x.m.tool ≤ 59
  ms : 0 ≤ x.m.start ∧ x.m.start ≤ 1000000 - x.mx
  st : 0 ≤ x.s.tool ∧ x.s.tool ≤ 59
  ss : 0 ≤ x.s.start ∧ x.s.start ≤ 1000000 - x.mx
theorem okStage_iff {x : Stage} : okStage x = true ↔ OkStage x := by
  simp only [okStage, Bool.and_eq_true, within_iff, okSlot_iff, decide_eq_true_eq]
  exact ⟨fun ⟨⟨⟨⟨h1, h2⟩, h3⟩, h4⟩, h5⟩ => ⟨h1.1, h1.2, h2, h3, h4.1, h4.2, h5.1, h5.2⟩, fun h => ⟨⟨⟨⟨⟨h.mn, h.mx⟩, h.top⟩, h.ne⟩, h.mt, h.ms⟩, h.st, h.ss⟩⟩
structure OkWin (n : Nat) (w : Win) : Prop where
  f : 0 ≤ w.f
  ft : w.f < w.t
  t : w.t < n
  l : 0 ≤ w.lim ∧ w.lim ≤ 1000000
theorem okWin_iff {n : Nat} {w : Win} : okWin n w = true ↔ OkWin n w := by
  simp only [okWin, Bool.and_eq_true, within_iff, decide_eq_true_eq]
  exact ⟨fun ⟨⟨⟨h1, h2⟩, h3⟩, h4⟩ => ⟨h1, h2, h3, h4⟩, fun h => ⟨⟨⟨h.f, h.ft⟩, h.t⟩, h.l⟩⟩
theorem okWinsFrom_all {n : Nat} : ∀ {l : List Win} {v : Option Win}, okWinsFrom n v l = true → ∀ w ∈ l, OkWin n w
  | [], _, _, w, hw => by cases hw
  | x :: l, v, h, w, hw => by
    have h' : okWin n x = true ∧ okWinsFrom n (some x) l = true := by
      cases v <;> simp only [okWinsFrom, Bool.and_eq_true] at h
      · exact h
      · exact ⟨h.1.1, h.2⟩
    rcases List.mem_cons.1 hw with rfl | hw
    · exact okWin_iff.1 h'.1
    · exact okWinsFrom_all h'.2 w hw
structure Valid (p : Plan) : Prop where
  entry : 0 ≤ p.entry ∧ p.entry ≤ 1000000
  mmin : 0 ≤ p.mmin ∧ p.mmin ≤ p.mmax
  mmax : p.mmax ≤ 10000
  len : 1 ≤ p.st.length ∧ p.st.length ≤ 8
  st : ∀ x ∈ p.st, OkStage x
  wlen : p.wn.length ≤ 20
  wn : ∀ w ∈ p.wn, OkWin p.st.length w
  asc : okWinsFrom p.st.length none p.wn = true
theorem valid_iff {p : Plan} : valid p = true ↔ Valid p := by
  simp only [valid, okStages, okWins, Bool.and_eq_true, within_iff, decide_eq_true_eq, List.all_eq_true]
  constructor
  · rintro ⟨⟨⟨⟨h1, h2⟩, h3⟩, h4, h5⟩, h6, h7⟩
    exact ⟨h1, h2, h3, by omega, fun x hx => okStage_iff.1 (h5 x hx), h6, okWinsFrom_all h7, h7⟩
  · intro h
    have := h.len
    exact ⟨⟨⟨⟨h.entry, h.mmin⟩, h.mmax⟩, by omega, fun x hx => okStage_iff.2 (h.st x hx)⟩, h.wlen, h.asc⟩
theorem okDurs_iff : ∀ {D : List Int} {l : List Stage}, okDurs D l = true ↔ D.length = l.length ∧ ∀ i (h : i < l.length), l[i].mn ≤ D.getD i 0 ∧ D.getD i 0 ≤ l[i].mx
  | [], [] => by simp [okDurs]
  | [], x :: l => by simp [okDurs]
  | d :: D, [] => by simp [okDurs]
  | d :: D, x :: l => by
    simp only [okDurs, Bool.and_eq_true, within_iff, okDurs_iff (D := D) (l := l), List.length_cons]
    constructor
    · rintro ⟨h1, h2, h3⟩
      refine ⟨by omega, fun i hi => ?_⟩
      cases i with
      | zero => exact h1
      | succ i => exact h3 i (by omega)
    · rintro ⟨h1, h2⟩
      exact ⟨h2 0 (by omega), by omega, fun i hi => h2 (i + 1) (by omega)⟩
structure Poss (p : Plan) (s : Scen) : Prop where
  v : Valid p
  dlen : s.dur.length = p.st.length
  dur : ∀ i (h : i < p.st.length), p.st[i].mn ≤ s.dur.getD i 0 ∧ s.dur.getD i 0 ≤ p.st[i].mx
  mlen : s.mv.length = p.st.length
  mv : ∀ i, i < p.st.length → p.mmin ≤ s.mv.getD i 0 ∧ s.mv.getD i 0 ≤ p.mmax
  det : p.mmin ≤ s.det ∧ s.det ≤ p.mmax
  fail : (s.tool = -1 ∧ s.at_ = 0) ∨ ((0 ≤ s.tool ∧ s.tool ≤ 59) ∧ 0 ≤ s.at_ ∧ s.at_ ≤ 1000000)
theorem getD_mem {l : List Int} {i : Nat} (h : i < l.length) : l.getD i 0 ∈ l := by
  rw [List.getD_eq_getElem?_getD, List.getElem?_eq_getElem h]; exact List.getElem_mem h
theorem possible_iff {p : Plan} {s : Scen} : possible p s = true ↔ Poss p s := by
  simp only [possible, okMvs, okFail, isTool, Bool.and_eq_true, Bool.or_eq_true, within_iff, decide_eq_true_eq, List.all_eq_true, valid_iff, okDurs_iff]
  constructor
  · rintro ⟨⟨⟨⟨h1, h2, h3⟩, h4, h5⟩, h6⟩, h7⟩
    exact ⟨h1, h2, h3, h4, fun i hi => h5 _ (getD_mem (by omega)), h6, h7⟩
  · intro h
    refine ⟨⟨⟨⟨h.v, h.dlen, h.dur⟩, h.mlen, fun m hm => ?_⟩, h.det⟩, h.fail⟩
    obtain ⟨i, hi, rfl⟩ := List.mem_iff_getElem.1 hm
    have := h.mv i (by have := h.mlen; omega)
    rwa [List.getD_eq_getElem?_getD, List.getElem?_eq_getElem hi] at this

/-- What holds of a slot that is found. -/
theorem slot_some {x : Stage} {s : Scen} {t m d : Int} {o : Slot} (hd : 0 ≤ s.det) (h : slot x s t m d = some o) :
    t + m ≤ o.start ∧ ((o = x.m ∧ ¬ (s.tool = x.m.tool ∧ s.at_ < x.m.start + d)) ∨ (o = x.s ∧ s.tool = x.m.tool ∧ s.at_ < x.m.start + d)) := by
  unfold slot loses at h
  simp only [Bool.and_eq_true, decide_eq_true_eq] at h
  split at h
  · rename_i hl
    split at h
    · split at h
      · cases h; exact ⟨by assumption, .inr ⟨rfl, hl⟩⟩
      · cases h
    · split at h
      · split at h
        · cases h; exact ⟨by omega, .inr ⟨rfl, hl⟩⟩
        · cases h
      · split at h
        · cases h; exact ⟨by omega, .inr ⟨rfl, hl⟩⟩
        · cases h
  · rename_i hl
    split at h
    · cases h; exact ⟨by assumption, .inl ⟨rfl, hl⟩⟩
    · cases h
/-- Shorter moves do no harm. -/
theorem slot_mono {x : Stage} {s s' : Scen} {t m m' d : Int} {o : Slot} (h1 : s'.tool = s.tool) (h2 : s'.at_ = s.at_) (hm : m' ≤ m) (hd : s'.det ≤ s.det) (h : slot x s t m d = some o) : slot x s' t m' d = some o := by
  have e : loses s' x.m d = loses s x.m d := by unfold loses; rw [h1, h2]
  unfold slot at h ⊢
  rw [e, h2]
  split at h
  · rename_i hl
    rw [if_pos hl]
    split at h
    · rename_i ha
      rw [if_pos ha]
      split at h
      · rw [if_pos (by omega)]; exact h
      · cases h
    · rename_i ha
      rw [if_neg ha]
      split at h
      · rename_i hb
        rw [if_pos hb]
        split at h
        · rw [if_pos (by omega)]; exact h
        · cases h
      · rename_i hb
        rw [if_neg hb]
        split at h
        · rw [if_pos (by omega)]; exact h
        · cases h
  · rename_i hl
    rw [if_neg hl]
    split at h
    · rw [if_pos (by omega)]; exact h
    · cases h
theorem run_mono {wn : List Win} {s s' : Scen} (h1 : s'.tool = s.tool) (h2 : s'.at_ = s.at_) (h3 : s'.dur = s.dur) (hd : s'.det ≤ s.det) : ∀ (l : List Stage) (i : Nat) (t : Int) (V : List Visit), (∀ k, k < i + l.length → s'.mv.getD k 0 ≤ s.mv.getD k 0) →
    (runFrom wn s l i t V).kind = 0 → runFrom wn s' l i t V = runFrom wn s l i t V
  | [], _, _, _, _, _ => rfl
  | x :: l, i, t, V, hm, hk => by
    unfold runFrom at hk ⊢
    rw [h3]
    cases hs : slot x s t (s.mv.getD i 0) (s.dur.getD i 0) with
    | none => rw [hs] at hk; simp at hk
    | some o =>
      rw [hs] at hk
      rw [slot_mono h1 h2 (hm i (by simp)) hd hs]
      simp only at hk ⊢
      cases hf : firstMiss (V ++ [⟨i, o.tool, o.start, o.start + s.dur.getD i 0⟩]) i wn 0 with
      | some k => rfl
      | none =>
        rw [hf] at hk
        simp only at hk ⊢
        exact run_mono h1 h2 h3 hd l (i + 1) _ _ (fun k hk' => hm k (by simp; omega)) hk
/-- The same slots, the same run. -/
theorem run_same {wn : List Win} {s s' : Scen} (h3 : s'.dur = s.dur) : ∀ (l : List Stage) (i : Nat) (t : Int) (V : List Visit), (∀ k (h : k < l.length) t, slot l[k] s' t (s'.mv.getD (i + k) 0) (s.dur.getD (i + k) 0) = slot l[k] s t (s.mv.getD (i + k) 0) (s.dur.getD (i + k) 0)) →
    runFrom wn s' l i t V = runFrom wn s l i t V
  | [], _, _, _, _ => rfl
  | x :: l, i, t, V, h => by
    unfold runFrom
    rw [h3, show slot x s' t (s'.mv.getD i 0) (s.dur.getD i 0) = slot x s t (s.mv.getD i 0) (s.dur.getD i 0) from h 0 (by simp) t]
    cases slot x s t (s.mv.getD i 0) (s.dur.getD i 0) with
    | none => rfl
    | some o =>
      simp only
      cases firstMiss (V ++ [⟨i, o.tool, o.start, o.start + s.dur.getD i 0⟩]) i wn 0 with
      | some k => rfl
      | none =>
        simp only
        refine run_same h3 l (i + 1) _ _ (fun k hk t => ?_)
        have := h (k + 1) (by simp; omega) t
        rw [show i + 1 + k = i + (k + 1) by omega]
        exact this
end Go.Proofs.Ytjdhjlhcdpekbaa.Pe.Pl

namespace Go.Proofs.Ytjdhjlhcdpekbaa.Pe.Pl

theorem nth_lt {V : List Visit} {k : Nat} (h : k < V.length) : nth V (k : Int) = V[k] := by
  unfold nth; rw [Int.toNat_natCast, List.getD_eq_getElem?_getD, List.getElem?_eq_getElem h]; rfl
theorem nth_app {V U : List Visit} {k : Nat} (h : k < V.length) : nth (V ++ U) (k : Int) = nth V (k : Int) := by
  rw [nth_lt h, nth_lt (by rw [List.length_append]; omega), List.getElem_append_left h]
theorem nth_last (V : List Visit) (v : Visit) : nth (V ++ [v]) (V.length : Int) = v := by
  rw [nth_lt (by simp)]; simp
/-- When the wafers leave for stage k. -/
def leave (p : Plan) (V : List Visit) (k : Nat) : Int := if k = 0 then p.entry else (nth V ((k - 1 : Nat) : Int)).fin
/-- Stage k is processed as it should be. -/
structure Done (p : Plan) (s : Scen) (V : List Visit) (k : Nat) (x : Stage) : Prop where
  step : (nth V k).step = k
  slot : slot x s (leave p V k) (s.mv.getD k 0) (s.dur.getD k 0) = some ⟨(nth V k).tool, (nth V k).start⟩
  fin : (nth V k).fin = (nth V k).start + s.dur.getD k 0
structure Steps (p : Plan) (s : Scen) (i : Nat) (V : List Visit) : Prop where
  len : V.length = i
  each : ∀ k (h : k < p.st.length), k < i → Done p s V k p.st[k]
def Kept (p : Plan) (i : Nat) (V : List Visit) : Prop := ∀ w ∈ p.wn, w.t < i → missed V w = false
theorem firstMiss_none {V : List Visit} {i : Nat} : ∀ {l : List Win} {k : Nat}, firstMiss V i l k = none → ∀ w ∈ l, w.t = (i : Int) → missed V w = false
  | [], _, _, w, hw, _ => by cases hw
  | x :: l, k, h, w, hw, ht => by
    unfold firstMiss at h
    split at h
    · cases h
    · rename_i hn
      rcases List.mem_cons.1 hw with rfl | hw
      · cases hm : missed V w
        · rfl
        · exact absurd ⟨ht, hm⟩ hn
      · exact firstMiss_none h w hw ht
theorem firstMiss_some {V : List Visit} {i : Nat} : ∀ {l : List Win} {k m : Nat}, firstMiss V i l k = some m → ∃ j, ∃ h : j < l.length, m = k + j ∧ l[j].t = (i : Int) ∧ missed V l[j] = true ∧ ∀ q (hq : q < j), l[q].t = (i : Int) → missed V l[q] = false
  | [], _, _, h => by cases h
  | x :: l, k, m, h => by
    unfold firstMiss at h
    split at h
    · rename_i hx
      cases h
      exact ⟨0, by simp, by omega, hx.1, hx.2, fun q hq => by omega⟩
    · rename_i hn
      obtain ⟨j, hj, e, h1, h2, h3⟩ := firstMiss_some h
      refine ⟨j + 1, by simp; omega, by omega, h1, h2, fun q hq => ?_⟩
      cases q with
      | zero =>
        intro ht
        cases hm : missed V x
        · simpa using hm
        · exact absurd ⟨ht, hm⟩ hn
      | succ q => intro ht; simpa using h3 q (by omega) (by simpa using ht)
/-- How a run ends. -/
inductive Ended (p : Plan) (s : Scen) (R : Res) : Prop where
  | never : R.kind = 0 → R.num = 0 → Steps p s p.st.length R.V → Kept p p.st.length R.V → Ended p s R
  | atSlot (j : Nat) : R.kind = 1 → R.num = j → j < p.st.length → Steps p s j R.V → Kept p j R.V → Ended p s R
  | atWin (j k : Nat) (h : k < p.wn.length) : R.kind = 2 → R.num = k → j < p.st.length → Steps p s (j + 1) R.V → Kept p j R.V → p.wn[k].t = j → missed R.V p.wn[k] = true →
      (∀ q (hq : q < k), p.wn[q].t = j → missed R.V p.wn[q] = false) → Ended p s R
theorem missed_app {V U : List Visit} {w : Win} (h0 : 0 ≤ w.f) (h1 : w.f < w.t) (h2 : w.t < V.length) : missed (V ++ U) w = missed V w := by
  obtain ⟨a, ha⟩ := Int.eq_ofNat_of_zero_le h0
  obtain ⟨b, hb⟩ := Int.eq_ofNat_of_zero_le (show 0 ≤ w.t by omega)
  unfold missed
  rw [ha, hb, nth_app (by omega), nth_app (by omega)]
theorem Steps.snoc {p : Plan} {s : Scen} {i : Nat} {V : List Visit} (h : Steps p s i V) (hi : i < p.st.length) {o : Slot} (ho : slot p.st[i] s (leave p V i) (s.mv.getD i 0) (s.dur.getD i 0) = some o) :
    Steps p s (i + 1) (V ++ [⟨i, o.tool, o.start, o.start + s.dur.getD i 0⟩]) := by
  have hl := h.len
  have old : ∀ k : Nat, k < i → nth (V ++ [⟨i, o.tool, o.start, o.start + s.dur.getD i 0⟩]) (k : Int) = nth V k := fun k hk => nth_app (by omega)
  have lv : ∀ k, k ≤ i → leave p (V ++ [⟨i, o.tool, o.start, o.start + s.dur.getD i 0⟩]) k = leave p V k := fun k hk => by
    unfold leave
    split
    · rfl
    · rw [old _ (by omega)]
  refine ⟨by simp [hl], fun k hk hki => ?_⟩
  by_cases e : k = i
  · subst e
    have hn : nth (V ++ [⟨(k : Int), o.tool, o.start, o.start + s.dur.getD k 0⟩]) (k : Int) = ⟨k, o.tool, o.start, o.start + s.dur.getD k 0⟩ := by
      have := nth_last V ⟨(k : Int), o.tool, o.start, o.start + s.dur.getD k 0⟩
      rwa [hl] at this
    exact ⟨by rw [hn], by rw [hn, lv _ (Nat.le_refl _)]; exact ho, by rw [hn]⟩
  · have hd := h.each k hk (by omega)
    exact ⟨by rw [old _ (by omega)]; exact hd.step, by rw [old _ (by omega), lv _ (by omega)]; exact hd.slot, by rw [old _ (by omega)]; exact hd.fin⟩
theorem ended_from {p : Plan} {s : Scen} (hv : ∀ w ∈ p.wn, OkWin p.st.length w) : ∀ (l : List Stage) (i : Nat) (t : Int) (V : List Visit), l = p.st.drop i → i ≤ p.st.length → Steps p s i V → Kept p i V → t = leave p V i → Ended p s (runFrom p.wn s l i t V)
  | [], i, t, V, hl, hi, h1, h2, _ => by
    have e : i = p.st.length := by
      have := congrArg List.length hl
      rw [List.length_drop] at this; simp at this; omega
    subst e
    exact .never rfl rfl h1 h2
  | x :: l, i, t, V, hl, hi, h1, h2, ht => by
    have hlt : i < p.st.length := by
      have := congrArg List.length hl
      rw [List.length_drop] at this; simp at this; omega
    have hd : p.st.drop i = p.st[i] :: p.st.drop (i + 1) := List.drop_eq_getElem_cons hlt
    rw [hd] at hl
    obtain ⟨rfl, hl'⟩ := List.cons.inj hl
    unfold runFrom
    cases hs : slot p.st[i] s t (s.mv.getD i 0) (s.dur.getD i 0) with
    | none => exact .atSlot i rfl rfl hlt h1 h2
    | some o =>
      simp only
      rw [ht] at hs
      have h3 := h1.snoc hlt hs
      have h2' : Kept p i (V ++ [⟨(i : Int), o.tool, o.start, o.start + s.dur.getD i 0⟩]) := fun w hw hwt => by
        have ok := hv w hw
        rw [missed_app ok.f ok.ft (by rw [h1.len]; exact hwt)]
        exact h2 w hw hwt
      cases hf : firstMiss (V ++ [⟨(i : Int), o.tool, o.start, o.start + s.dur.getD i 0⟩]) i p.wn 0 with
      | some k =>
        obtain ⟨j, hj, e, h4, h5, h6⟩ := firstMiss_some hf
        obtain rfl : k = j := by omega
        exact .atWin i k hj rfl rfl hlt h3 h2' h4 h5 h6
      | none =>
        simp only
        refine ended_from hv l (i + 1) _ _ hl' hlt h3 (fun w hw hwt => ?_) ?_
        · by_cases hwi : w.t < i
          · exact h2' w hw hwi
          · exact firstMiss_none hf w hw (by omega)
        · unfold leave
          rw [if_neg (by omega), Nat.add_sub_cancel]
          have := nth_last V ⟨(i : Int), o.tool, o.start, o.start + s.dur.getD i 0⟩
          rw [h1.len] at this
          rw [this]
theorem ended {p : Plan} {s : Scen} (hv : Valid p) : Ended p s (run p s) :=
  ended_from hv.wn p.st 0 p.entry [] rfl (by omega) ⟨rfl, fun k _ h => absurd h (Nat.not_lt_zero k)⟩ (fun w hw h => by have := (hv.wn w hw).f; have := (hv.wn w hw).ft; omega) rfl

/-- What a stage that was processed tells. -/
theorem done_of {p : Plan} {s : Scen} (hp : Poss p s) {V : List Visit} {k : Nat} (hk : k < p.st.length) (h : Done p s V k p.st[k]) :
    leave p V k + p.mmin ≤ (nth V k).start ∧ (nth V k).fin = (nth V k).start + s.dur.getD k 0 ∧ (((nth V k).tool = p.st[k].m.tool ∧ (nth V k).start = p.st[k].m.start ∧ (s.tool = p.st[k].m.tool → (nth V k).fin ≤ s.at_)) ∨ ((nth V k).tool = p.st[k].s.tool ∧ (nth V k).start = p.st[k].s.start)) := by
  have h1 := hp.v.mmin
  have h2 := hp.mv k hk
  obtain ⟨h3, h4⟩ := slot_some (by have := hp.det; omega) h.slot
  refine ⟨by simp only at h3; omega, h.fin, ?_⟩
  have hf := h.fin
  rcases h4 with ⟨e, h4⟩ | ⟨e, h4⟩
  · left
    rw [← e] at h4 ⊢
    refine ⟨rfl, rfl, fun ht => ?_⟩
    simp only at h4 ⊢
    have : ¬ (s.at_ < (nth V k).start + s.dur.getD k 0) := fun hc => h4 ⟨ht, hc⟩
    omega
  · right
    rw [← e]
    exact ⟨rfl, rfl⟩

/-! ### later -/
def shSlot (by_ : Int) (o : Slot) : Slot := ⟨o.tool, o.start + by_⟩
def shStage (by_ : Int) (x : Stage) : Stage := ⟨x.mn, x.mx, shSlot by_ x.m, shSlot by_ x.s⟩
def shVisit (by_ : Int) (v : Visit) : Visit := ⟨v.step, v.tool, v.start + by_, v.fin + by_⟩
def shPlan (by_ : Int) (p : Plan) : Plan := ⟨p.entry + by_, p.mmin, p.mmax, p.st.map (shStage by_), p.wn⟩
theorem slot_sh {b : Int} {x : Stage} {s s' : Scen} {t m d : Int} (hx : 0 ≤ x.m.tool) (h1 : s'.tool = s.tool) (h2 : s.tool = -1 ∨ s'.at_ = s.at_ + b) (h3 : s'.det = s.det) : slot (shStage b x) s' (t + b) m d = (slot x s t m d).map (shSlot b) := by
  obtain ⟨mn, mx, ⟨mt, ms⟩, ⟨st, ss⟩⟩ := x
  simp only at hx
  show slot ⟨mn, mx, ⟨mt, ms + b⟩, ⟨st, ss + b⟩⟩ s' (t + b) m d = _
  rcases h2 with h2 | h2
  · simp only [slot, loses, Bool.and_eq_true, decide_eq_true_eq, h1, h2, h3]
    repeat' split
    all_goals first | rfl | (exfalso; omega) | (simp [shSlot]; done)
  · simp only [slot, loses, Bool.and_eq_true, decide_eq_true_eq, h1, h2, h3]
    repeat' split
    all_goals first | rfl | (exfalso; omega) | (simp [shSlot]; done)
theorem nth_sh {b : Int} {V : List Visit} {i : Int} (h0 : 0 ≤ i) (h : i < V.length) : nth (V.map (shVisit b)) i = shVisit b (nth V i) := by
  obtain ⟨k, rfl⟩ := Int.eq_ofNat_of_zero_le h0
  rw [nth_lt (V := V) (by omega), nth_lt (V := V.map (shVisit b)) (by rw [List.length_map]; omega), List.getElem_map]
theorem missed_sh {b : Int} {V : List Visit} {w : Win} (h0 : 0 ≤ w.f) (h1 : w.f < w.t) (h2 : w.t < V.length) : missed (V.map (shVisit b)) w = missed V w := by
  unfold missed
  rw [nth_sh (by omega) h2, nth_sh h0 (by omega)]
  unfold shVisit
  rw [decide_eq_decide]; simp only; omega
theorem firstMiss_sh {b : Int} {V : List Visit} {i : Nat} {n : Nat} (hi : V.length = i + 1) : ∀ (l : List Win) (k : Nat), (∀ w ∈ l, OkWin n w) → firstMiss (V.map (shVisit b)) i l k = firstMiss V i l k
  | [], _, _ => rfl
  | w :: l, k, h => by
    unfold firstMiss
    rw [firstMiss_sh hi l (k + 1) (fun w hw => h w (List.mem_cons_of_mem _ hw))]
    have ok := h w (by simp)
    by_cases ht : w.t = (i : Int)
    · rw [missed_sh ok.f ok.ft (by omega)]
    · rw [if_neg (fun h => ht h.1), if_neg (fun h => ht h.1)]
theorem run_sh {b : Int} {wn : List Win} {n : Nat} {s s' : Scen} (hw : ∀ w ∈ wn, OkWin n w) (h1 : s'.tool = s.tool) (h2 : s.tool = -1 ∨ s'.at_ = s.at_ + b) (h3 : s'.det = s.det) (h4 : s'.dur = s.dur) (h5 : s'.mv = s.mv) :
    ∀ (l : List Stage) (i : Nat) (t : Int) (V : List Visit), V.length = i → (∀ x ∈ l, 0 ≤ x.m.tool) → runFrom wn s' (l.map (shStage b)) i (t + b) (V.map (shVisit b)) = ⟨(runFrom wn s l i t V).V.map (shVisit b), (runFrom wn s l i t V).kind, (runFrom wn s l i t V).num⟩
  | [], i, t, V, _, _ => rfl
  | x :: l, i, t, V, hV, hx => by
    rw [List.map_cons]
    unfold runFrom
    rw [h4, h5, slot_sh (hx x (by simp)) h1 h2 h3]
    cases hs : slot x s t (s.mv.getD i 0) (s.dur.getD i 0) with
    | none => rfl
    | some o =>
      simp only [Option.map_some]
      have e0 : o.start + b + s.dur.getD i 0 = o.start + s.dur.getD i 0 + b := by omega
      have e : V.map (shVisit b) ++ [(⟨(i : Int), (shSlot b o).tool, (shSlot b o).start, (shSlot b o).start + s.dur.getD i 0⟩ : Visit)] = (V ++ [(⟨(i : Int), o.tool, o.start, o.start + s.dur.getD i 0⟩ : Visit)]).map (shVisit b) := by
        rw [List.map_append, List.map_cons, List.map_nil]; show _ = _ ++ [(⟨(i : Int), o.tool, o.start + b, o.start + s.dur.getD i 0 + b⟩ : Visit)]; rw [← e0]; rfl
      have e2 : (shSlot b o).start + s.dur.getD i 0 = o.start + s.dur.getD i 0 + b := e0
      rw [e, firstMiss_sh (by simp [hV]) wn 0 hw]
      cases hf : firstMiss (V ++ [⟨(i : Int), o.tool, o.start, o.start + s.dur.getD i 0⟩]) i wn 0 with
      | some k => rfl
      | none =>
        show runFrom wn s' _ (i + 1) ((shSlot b o).start + s.dur.getD i 0) _ = _
        rw [e2]
        exact run_sh hw h1 h2 h3 h4 h5 l (i + 1) _ _ (by simp [hV]) (fun x hx' => hx x (List.mem_cons_of_mem _ hx'))
end Go.Proofs.Ytjdhjlhcdpekbaa.Pe.Pl

namespace Go.Proofs.Ytjdhjlhcdpekbaa.Pe.Pl

theorem steps_bd {p : Plan} {s : Scen} {i : Nat} {V : List Visit} (hp : Poss p s) (hi : i ≤ p.st.length) (h : Steps p s i V) {k : Nat} (hk : k < i) :
    (0 ≤ (nth V k).start ∧ (nth V k).start ≤ 1000000) ∧ 0 ≤ (nth V k).fin ∧ (nth V k).fin ≤ 1010000 := by
  have hkl : k < p.st.length := by omega
  obtain ⟨-, h2, h3⟩ := done_of hp hkl (h.each k hkl hk)
  have ok := hp.v.st p.st[k] (List.getElem_mem hkl)
  have hd := hp.dur k hkl
  have o1 := ok.mn; have o2 := ok.mx; have o3 := ok.top; have o4 := ok.ms; have o5 := ok.ss
  rcases h3 with ⟨-, e, -⟩ | ⟨-, e⟩ <;> omega
/-- The visits of a run, whatever its end. -/
theorem ended_steps {p : Plan} {s : Scen} {R : Res} (h : Ended p s R) : Steps p s R.V.length R.V ∧ R.V.length ≤ p.st.length := by
  rcases h with ⟨-, -, h, -⟩ | ⟨j, -, -, hj, h, -⟩ | ⟨j, k, -, -, -, hj, h, -⟩
  · have := h.len; rw [this]; exact ⟨h, Nat.le_refl _⟩
  · have := h.len; rw [this]; exact ⟨h, by omega⟩
  · have := h.len; rw [this]; exact ⟨h, by omega⟩
theorem ended_bd {p : Plan} {s : Scen} {R : Res} (hp : Poss p s) (h : Ended p s R) {k : Nat} (hk : k < R.V.length) :
    (0 ≤ (nth R.V k).start ∧ (nth R.V k).start ≤ 1000000) ∧ 0 ≤ (nth R.V k).fin ∧ (nth R.V k).fin ≤ 1010000 :=
  steps_bd hp (ended_steps h).2 (ended_steps h).1 hk
end Go.Proofs.Ytjdhjlhcdpekbaa.Pe.Pl

namespace Go.Proofs.Ytjdhjlhcdpekbaa.Pe
open Go.RowKit

/-! ### rows of records -/
/-- A slice of records, each of k cells. -/
def RowA {α : Type} (f : α → List Value) (k : Nat) (w : World) (a : Option Addr) (c : Nat) (L : List α) : Prop :=
  L.length ≤ c ∧ c ≤ maxLen ∧ ∀ i (h : i < L.length), ∃ b off : Nat, a = some ⟨b, off, none⟩ ∧ b < w.heap.size ∧ ∀ (j : Nat) (v : Value), (f L[i])[j]? = some v → w.cell? ⟨b, off + i * k + j, none⟩ = some v
theorem RowA.below {α : Type} {f : α → List Value} {k : Nat} {w w' : World} {a : Option Addr} {c : Nat} {L : List α} (h : RowA f k w a c L) (hb : Below w.heap.size w w') : RowA f k w' a c L := by
  refine ⟨h.1, h.2.1, fun i hi => ?_⟩
  obtain ⟨b, off, rfl, h1, h2⟩ := h.2.2 i hi
  exact ⟨b, off, rfl, Nat.lt_of_lt_of_le h1 hb.size, fun j v hv => cell_below hb (h2 j v hv)⟩
theorem RowA.ch {α : Type} {f : α → List Value} {k : Nat} {S : Nat → Prop} {w w' : World} {a : Option Addr} {c : Nat} {L : List α} (h : RowA f k w a c L) (hb : Ch S w w') (hS : ∀ x, a = some x → ¬ S x.block) : RowA f k w' a c L := by
  refine ⟨h.1, h.2.1, fun i hi => ?_⟩
  obtain ⟨b, off, rfl, h1, h2⟩ := h.2.2 i hi
  have hk := hb.block b h1 (hS _ rfl)
  exact ⟨b, off, rfl, Nat.lt_of_lt_of_le h1 hb.size, fun j v hv => (World.cell?_of_block (a := ⟨b, _, none⟩) hk).trans (h2 j v hv)⟩
theorem RowA.of_heap {α : Type} {f : α → List Value} {k : Nat} {w v : World} {a : Option Addr} {c : Nat} {L : List α} (h : RowA f k w a c L) (e : v.heap = w.heap) : RowA f k v a c L := by
  unfold RowA World.cell? at *; rw [e]; exact h
theorem RowA.nil {α : Type} (f : α → List Value) (k : Nat) (w : World) : RowA f k w none 0 ([] : List α) := ⟨Nat.le_refl _, by decide, fun i hi => by cases hi⟩
theorem RowA.at {α : Type} {f : α → List Value} {k : Nat} {w : World} {a : Option Addr} {c : Nat} {L : List α} (h : RowA f k w a c L) (h0 : 0 < L.length) : ∃ b off : Nat, a = some ⟨b, off, none⟩ ∧ b < w.heap.size ∧
    ∀ i (h : i < L.length) (j : Nat) (v : Value), (f L[i])[j]? = some v → w.cell? ⟨b, off + i * k + j, none⟩ = some v := by
  obtain ⟨b, off, rfl, h1, -⟩ := h.2.2 0 h0
  refine ⟨b, off, rfl, h1, fun i hi => ?_⟩
  obtain ⟨b', off', e, _, h2⟩ := h.2.2 i hi
  injection e with e; injection e with e1 e2; subst e1; subst e2; exact h2
theorem RowA.len {α : Type} {f : α → List Value} {k : Nat} {w : World} {a : Option Addr} {c : Nat} {L : List α} (h : RowA f k w a c L) : L.length ≤ maxLen := Nat.le_trans h.1 h.2.1
/-- A shorter slice of the same row. -/
theorem RowA.take {α : Type} {f : α → List Value} {k : Nat} {w : World} {a : Option Addr} {c : Nat} {L : List α} (h : RowA f k w a c L) (n : Nat) : RowA f k w a c (L.take n) := by
  refine ⟨Nat.le_trans (by simp; omega) h.1, h.2.1, fun i hi => ?_⟩
  have hi' : i < L.length := by simp at hi; omega
  obtain ⟨b, off, rfl, h1, h2⟩ := h.2.2 i hi'
  exact ⟨b, off, rfl, h1, fun j v hv => h2 j v (by rw [List.getElem_take] at hv; exact hv)⟩
/-- A row of records that the call has made. -/
def RowO {α : Type} (f : α → List Value) (t : TypeId) (k : Nat) (w : World) (B : Nat) (v : Value) (L : List α) : Prop := w.ownsRow B t k v L.length (L.flatMap f)
theorem RowO.nil {α : Type} (f : α → List Value) (t : TypeId) (k : Nat) (w : World) (B : Nat) : RowO f t k w B (.slice none 0 0) ([] : List α) := World.ownsRow_nil _ _ _ _
theorem RowO.below {α : Type} {f : α → List Value} {t : TypeId} {k : Nat} {w w' : World} {B : Nat} {v : Value} {L : List α} (h : RowO f t k w B v L) (hb : Below w.heap.size w w') : RowO f t k w' B v L := own_below h hb
theorem RowO.mono {α : Type} {f : α → List Value} {t : TypeId} {k : Nat} {w : World} {B B' : Nat} {v : Value} {L : List α} (h : RowO f t k w B v L) (hB : B' ≤ B) : RowO f t k w B' v L := by
  obtain ⟨h1, h2 | ⟨g, cap, cur, rfl, h2, h3, h4⟩⟩ := h
  · exact ⟨h1, .inl h2⟩
  · exact ⟨h1, .inr ⟨g, cap, cur, rfl, Nat.le_trans hB h2, h3, h4⟩⟩
theorem RowO.snoc {α : Type} {f : α → List Value} {t : TypeId} {k : Nat} {w : World} {B : Nat} {v : Value} {L : List α} {x : α} (h : w.ownsRow B t k v (L.length + 1) (L.flatMap f ++ f x)) : RowO f t k w B v (L ++ [x]) := by
  unfold RowO; rw [List.length_append, List.flatMap_append]; simpa using h
theorem RowO.arg {α : Type} {f : α → List Value} {t : TypeId} {k : Nat} (hf : ∀ x, (f x).length = k) {w : World} {B : Nat} {v : Value} {L : List α} (h : RowO f t k w B v L) :
    ∃ a c, v = .slice a L.length c ∧ RowA f k w a c L ∧ (∀ x, a = some x → v.ownBlock = some x.block) := by
  obtain ⟨a, c, rfl, h1, h2, h3⟩ := own_slice h
  refine ⟨a, c, rfl, ⟨h1, h2, fun i hi => ?_⟩, fun x hx => by subst hx; rfl⟩
  obtain ⟨g, rfl, hg, hc⟩ := h3 (by omega)
  refine ⟨g, 0, rfl, hg, fun j v hv => ?_⟩
  have hj : j < k := by rw [← hf L[i]]; exact (List.getElem?_eq_some_iff.1 hv).1
  have := hc (i * k + j) v (by rw [flat_at f k hf L i j hi hj]; exact hv)
  rwa [show 0 + (i * k + j) = 0 + i * k + j by omega] at this

/-! ### plans, scenarios -/
def stageCells (x : Pl.Stage) : List Value := [.int .i64 x.mn, .int .i64 x.mx, .int .i64 x.m.tool, .int .i64 x.m.start, .int .i64 x.s.tool, .int .i64 x.s.start]
def winCells (x : Pl.Win) : List Value := [.int .i64 x.f, .int .i64 x.t, .int .i64 x.lim]
def intCells (d : Int) : List Value := [.int .i64 d]
def visitCells (v : Pl.Visit) : List Value := [.int .i64 v.step, .int .i64 v.tool, .int .i64 v.start, .int .i64 v.fin]
def pbCells (v : Pl.Bk) : List Value := [.int .i64 v.tool, .int .i64 v.s, .int .i64 v.e, .int .i64 v.o]
abbrev slotV (o : Pl.Slot) : Value := .agg #[.int .i64 o.tool, .int .i64 o.start]
abbrev stageV (x : Pl.Stage) : Value := .agg #[.int .i64 x.mn, .int .i64 x.mx, .int .i64 x.m.tool, .int .i64 x.m.start, .int .i64 x.s.tool, .int .i64 x.s.start]
abbrev winV (x : Pl.Win) : Value := .agg #[.int .i64 x.f, .int .i64 x.t, .int .i64 x.lim]
abbrev StA := RowA stageCells 6
abbrev WnA := RowA winCells 3
abbrev IntsA := RowA intCells 1
abbrev VsA := RowA visitCells 4
abbrev StO := RowO stageCells 108 6
abbrev WnO := RowO winCells 110 3
abbrev IntsO := RowO intCells 3 1
abbrev VsO := RowO visitCells 77 4
abbrev PbO := RowO pbCells 36 4
theorem stage_len (x : Pl.Stage) : (stageCells x).length = 6 := rfl
theorem win_len (x : Pl.Win) : (winCells x).length = 3 := rfl
theorem int_len (x : Int) : (intCells x).length = 1 := rfl
theorem visit_len (x : Pl.Visit) : (visitCells x).length = 4 := rfl
theorem pb_len (x : Pl.Bk) : (pbCells x).length = 4 := rfl
/-- A plan's value: its lists lie somewhere. -/
structure PlanP where
  p : Pl.Plan
  sa : Option Addr
  sc : Nat
  wa : Option Addr
  wc : Nat
abbrev PlanP.val (q : PlanP) : Value := .agg #[.int .i64 q.p.entry, .int .i64 q.p.mmin, .int .i64 q.p.mmax, .slice q.sa q.p.st.length q.sc, .slice q.wa q.p.wn.length q.wc]
structure PlanP.ok (q : PlanP) (w : World) : Prop where
  st : StA w q.sa q.sc q.p.st
  wn : WnA w q.wa q.wc q.p.wn
theorem PlanP.ok.below {q : PlanP} {w w' : World} (h : q.ok w) (hb : Below w.heap.size w w') : q.ok w' := ⟨h.st.below hb, h.wn.below hb⟩
theorem PlanP.ok.of_heap {q : PlanP} {w w' : World} (h : q.ok w) (hb : w'.heap = w.heap) : q.ok w' := ⟨h.st.of_heap hb, h.wn.of_heap hb⟩
structure ScenP where
  s : Pl.Scen
  da : Option Addr
  dc : Nat
  ma : Option Addr
  mc : Nat
abbrev ScenP.val (q : ScenP) : Value := .agg #[.slice q.da q.s.dur.length q.dc, .slice q.ma q.s.mv.length q.mc, .int .i64 q.s.det, .int .i64 q.s.tool, .int .i64 q.s.at_]
structure ScenP.ok (q : ScenP) (w : World) : Prop where
  du : IntsA w q.da q.dc q.s.dur
  mv : IntsA w q.ma q.mc q.s.mv
theorem ScenP.ok.below {q : ScenP} {w w' : World} (h : q.ok w) (hb : Below w.heap.size w w') : q.ok w' := ⟨h.du.below hb, h.mv.below hb⟩
theorem ScenP.ok.of_heap {q : ScenP} {w w' : World} (h : q.ok w) (hb : w'.heap = w.heap) : q.ok w' := ⟨h.du.of_heap hb, h.mv.of_heap hb⟩
end Go.Proofs.Ytjdhjlhcdpekbaa.Pe

namespace Go.Proofs.Ytjdhjlhcdpekbaa.Pe
open Go.RowKit

theorem within_any (n a b : Int) (w : World) : Calls Try.prog 63 #[.int .i64 n, .int .i64 a, .int .i64 b] w fun e w' => e = .returned (.bool (Pl.within n a b)) ∧ w = w' := by
  unfold Pl.within
  by_cases h1 : a ≤ n
  · go_enter Try.func63, Try.ntmps63
    go_wp2
    go_ret
    exact ⟨by simp [h1], rfl⟩
  · go_enter Try.func63, Try.ntmps63
    go_wp2
    go_ret
    exact ⟨by simp; omega, rfl⟩
theorem pisTool_any (t : Int) (w : World) : Calls Try.prog 101 #[.int .i64 t] w fun e w' => e = .returned (.bool (Pl.isTool t)) ∧ w = w' := by
  unfold Pl.isTool
  go_enter Try.func101, Try.ntmps101
  go_wp2_with fail
  refine (within_any _ _ _ _).mono ?_; rintro _ w1 ⟨rfl, rfl⟩
  go_wp2_with fail
  go_ret
  exact ⟨rfl, rfl⟩
theorem validSlot_any (s : Pl.Slot) (d : Int) (w : World) (hd : 0 ≤ d ∧ d ≤ 1000000) : Calls Try.prog 103 #[slotV s, .int .i64 d] w fun e w' => e = .returned (.bool (Pl.okSlot s d)) ∧ Below w.heap.size w w' := by
  unfold Pl.okSlot
  obtain ⟨t, x⟩ := s
  have HT := Lib.hid (pisTool_any t)
  have HW := Lib.hid (within_any x 0 (1000000 - d))
  generalize Pl.isTool t = V at *
  generalize Pl.within x 0 (1000000 - d) = U at *
  have e1 : IntKind.i64.wrap (1000000 - d) = 1000000 - d := IntWalk.i64_in _ (by omega)
  cases V
  · go_enter Try.func103, Try.ntmps103
    go_wp2_with fail
    refine (HT.out _).mono ?_; rintro _ w1 ⟨rfl, rfl⟩
    go_wp2_with fail
    go_ret
    exact ⟨by simp, below_new _ _⟩
  · go_enter Try.func103, Try.ntmps103
    go_wp2_with fail
    refine (HT.out _).mono ?_; rintro _ w1 ⟨rfl, rfl⟩
    go_wp2_with fail
    refine (HW.out _).mono ?_; rintro _ w1 ⟨rfl, rfl⟩
    go_wp2_with fail
    go_ret
    exact ⟨by simp, below_new _ _⟩
theorem box_below {w w' : World} {X : Nat} {o : Obj} (h : w.heap[X]? = some o) (hb : Below w.heap.size w w') : w'.heap[X]? = some o := (hb.block X (lt_of_block h)).trans h
abbrev stageObj (x : Pl.Stage) : Obj := .cells #[.int .i64 x.mn, .int .i64 x.mx, .int .i64 x.m.tool, .int .i64 x.m.start, .int .i64 x.s.tool, .int .i64 x.s.start] 108
set_option maxRecDepth 100000 in
theorem validStage_any (x : Pl.Stage) (w : World) : Calls Try.prog 98 #[stageV x] w fun e w' => e = .returned (.bool (Pl.okStage x)) ∧ Below w.heap.size w w' := by
  unfold Pl.okStage
  obtain ⟨mn, mx, ⟨mt, ms⟩, ⟨st, ss⟩⟩ := x
  have hb1 : Pl.within mn 1 mx = true → 1 ≤ mn ∧ mn ≤ mx := fun h => Pl.within_iff.1 h
  have HW := Lib.hid (within_any mn 1 mx)
  have HA := Lib.hid (fun hd => fun w => validSlot_any ⟨mt, ms⟩ mx w hd)
  have HB := Lib.hid (fun hd => fun w => validSlot_any ⟨st, ss⟩ mx w hd)
  have HN := Lib.hid (heap_alloc_new w (stageObj ⟨mn, mx, ⟨mt, ms⟩, ⟨st, ss⟩⟩))
  have HG := Lib.hid (below_new w (stageObj ⟨mn, mx, ⟨mt, ms⟩, ⟨st, ss⟩⟩))
  simp only
  generalize Pl.within mn 1 mx = U at *
  generalize Pl.okSlot ⟨mt, ms⟩ mx = V at *
  generalize Pl.okSlot ⟨st, ss⟩ mx = Q at *
  cases U
  · clear hb1 HA HB
    go_enter Try.func98, Try.ntmps98
    go_wp2_with fail
    refine (HW.out _).mono ?_; rintro _ w1 ⟨rfl, rfl⟩
    go_wp2_with fail
    go_ret
    exact ⟨by simp, HG.out⟩
  · obtain ⟨h1, h2⟩ := hb1 rfl
    by_cases h3 : mx ≤ 10000
    · by_cases h4 : mt = st
      · subst h4
        clear HA HB
        go_enter Try.func98, Try.ntmps98
        go_wp2_with fail
        refine (HW.out _).mono ?_; rintro _ w1 ⟨rfl, rfl⟩
        go_wp2_with fail
        go_ret
        exact ⟨by simp, HG.out⟩
      · have HA := Lib.hid (HA.out (by omega))
        have HB := Lib.hid (HB.out (by omega))
        have h4' : (mt != st) = true := by simp [h4]
        have H4 := Lib.hid h4
        clear h4
        cases V
        · go_enter Try.func98, Try.ntmps98
          go_wp2_with fail
          refine (HW.out _).mono ?_; rintro _ w1 ⟨rfl, rfl⟩
          go_wp2_with fail
          refine (HA.out _).mono ?_; rintro _ w1 ⟨rfl, g1⟩
          have G1 := Lib.hid g1; clear g1
          go_wp2_with fail
          go_ret
          exact ⟨by simp, below_step HG.out G1.out⟩
        · go_enter Try.func98, Try.ntmps98
          go_wp2_with fail
          refine (HW.out _).mono ?_; rintro _ w1 ⟨rfl, rfl⟩
          go_wp2_with fail
          refine (HA.out _).mono ?_; rintro _ w1 ⟨rfl, g1⟩
          have HM := box_below HN.out g1
          have c1 := box_cell HM 1 _ rfl
          have c4 := box_cell HM 4 _ rfl
          have c5 := box_cell HM 5 _ rfl
          have G1 := Lib.hid g1; clear g1 HM
          go_wp2_with fail
          refine (HB.out _).mono ?_; rintro _ w2 ⟨rfl, g2⟩
          have G2 := Lib.hid g2; clear g2
          go_wp2_with fail
          go_ret
          exact ⟨by simp [H4.out, h3], below_step (below_step HG.out G1.out) G2.out⟩
    · clear HA HB
      go_enter Try.func98, Try.ntmps98
      go_wp2_with fail
      refine (HW.out _).mono ?_; rintro _ w1 ⟨rfl, rfl⟩
      go_wp2_with fail
      go_ret
      exact ⟨by simp; intros; omega, HG.out⟩
theorem validWindow_any (x : Pl.Win) (n : Nat) (w : World) : Calls Try.prog 99 #[winV x, .int .i64 n] w fun e w' => e = .returned (.bool (Pl.okWin n x)) ∧ Below w.heap.size w w' := by
  unfold Pl.okWin
  obtain ⟨f, t, l⟩ := x
  have HW := Lib.hid (within_any l 0 1000000)
  have HG := Lib.hid (below_new w (.cells #[.int .i64 f, .int .i64 t, .int .i64 l] 110))
  simp only
  generalize Pl.within l 0 1000000 = U at *
  by_cases h1 : 0 ≤ f
  · by_cases h2 : f < t
    · by_cases h3 : t < n
      · go_enter Try.func99, Try.ntmps99
        go_wp2_with fail
        refine (HW.out _).mono ?_; rintro _ w1 ⟨rfl, rfl⟩
        go_wp2_with fail
        go_ret
        exact ⟨by simp; omega, HG.out⟩
      · go_enter Try.func99, Try.ntmps99
        go_wp2_with fail
        go_ret
        exact ⟨by simp; intros; omega, HG.out⟩
    · go_enter Try.func99, Try.ntmps99
      go_wp2_with fail
      go_ret
      exact ⟨by simp; intros; omega, HG.out⟩
  · go_enter Try.func99, Try.ntmps99
    go_wp2_with fail
    go_ret
    exact ⟨by simp; intros; omega, HG.out⟩
end Go.Proofs.Ytjdhjlhcdpekbaa.Pe

namespace Go.Proofs.Ytjdhjlhcdpekbaa.Pe
open Go.RowKit

def cmpI (x y : Int) : Int := if x < y then -1 else if y < x then 1 else 0
theorem cmpI_lt {x y : Int} (h : x < y) : cmpI x y = -1 := by unfold cmpI; rw [if_pos h]
theorem cmpI_gt {x y : Int} (h : y < x) : cmpI x y = 1 := by unfold cmpI; rw [if_neg (by omega), if_pos h]
theorem cmpI_eq (x : Int) : cmpI x x = 0 := by unfold cmpI; rw [if_neg (by omega), if_neg (by omega)]
theorem cmpCompare_any (x y : Int) (w : World) : Calls Try.prog 105 #[.int .i64 x, .int .i64 y] w fun e w' => e = .returned (.int .i64 (cmpI x y)) ∧ w = w' := by
  rcases Int.lt_trichotomy x y with h | rfl | h
  · rw [cmpI_lt h]
    go_enter Try.func105, Try.ntmps105
    go_wp2
    go_ret
    exact ⟨rfl, rfl⟩
  · rw [cmpI_eq]
    go_enter Try.func105, Try.ntmps105
    go_wp2
    go_ret
    exact ⟨rfl, rfl⟩
  · have h' : ¬ x < y := by omega
    rw [cmpI_gt h]
    go_enter Try.func105, Try.ntmps105
    go_wp2
    go_ret
    exact ⟨rfl, rfl⟩

/-- The first number that is not zero, or zero. -/
def orI : List Int → Int
  | [] => 0
  | x :: l => if x = 0 then orI l else x
set_option maxHeartbeats 1000000 in
theorem cmpOr_any (L : List Int) (a : Option Addr) (c : Nat) (w : World) (h : IntsA w a c L) :
    Calls Try.prog 104 #[.slice a L.length c] w fun e w' => e = .returned (.int .i64 (orI L)) ∧ w = w' := by
  have hlen : L.length ≤ maxLen := Nat.le_trans h.1 h.2.1
  unfold maxLen at hlen
  have HA := Lib.hid h; clear h
  go_enter Try.func104, Try.ntmps104
  go_wp2_with fail
  go_loop [8] (fun i => ∃ k : Nat, k ≤ L.length ∧ i = .int .i64 (k : Int) ∧ Hid (orI (L.drop k) = orI L)) (fun i => L.length - (intOf i).toNat)
  case atStart => exact ⟨0, Nat.zero_le _, rfl, Lib.hid rfl⟩
  case round =>
    obtain ⟨k, hk, rfl, hh⟩ := hrel
    by_cases hlt : k < L.length
    · obtain ⟨b, off, rfl, hb, hc⟩ := HA.out.at (by omega)
      have c0 : w.cell? ⟨b, off + k, none⟩ = some (.int .i64 L[k]) := by simpa using hc k hlt 0 _ rfl
      have HE := Lib.hid (show orI (L.drop k) = if L[k] = 0 then orI (L.drop (k + 1)) else L[k] by rw [List.drop_eq_getElem_cons hlt, orI])
      clear hc
      generalize L[k] = x at *
      by_cases h1 : x = 0
      · have HN := Lib.hid (show orI (L.drop (k + 1)) = orI L by rw [← hh.out, HE.out, if_pos h1])
        have hx : (x != 0) = false := by simp [h1]
        clear h1
        go_wp2_with fail
        go_round
        case rel => exact ⟨k + 1, by omega, by go_num, HN⟩
        case measure => simp [intOf]; omega
      · have HF := Lib.hid (show orI L = x by rw [← hh.out, HE.out, if_neg h1])
        have hx : (x != 0) = true := by simp [h1]
        clear h1
        go_wp2_with fail
        go_ret
        exact ⟨ret_int HF.out.symm, rfl⟩
    · have HF := Lib.hid (show orI L = 0 by rw [← hh.out, List.drop_of_length_le (by omega)]; rfl)
      go_wp2_with fail
      go_ret
      exact ⟨ret_int HF.out.symm, rfl⟩

def cmpW (v u : Pl.Win) : Int := orI [cmpI v.f u.f, cmpI v.t u.t]
theorem cmpW_ahead (v u : Pl.Win) : decide (0 ≤ cmpW v u) = !Pl.before v u := by
  unfold cmpW Pl.before orI orI orI cmpI
  rw [Bool.eq_iff_iff]
  simp only [decide_eq_true_eq, Bool.not_eq_true', Bool.or_eq_false_iff, decide_eq_false_iff_not, Bool.and_eq_false_iff]
  repeat' split
  all_goals omega
theorem ints_lit2 (w : World) (x y : Int) : IntsA (w.alloc (.cells #[.int .i64 x, .int .i64 y] 3)) (some ⟨w.heap.size, 0, none⟩) 2 [x, y] := by
  refine ⟨Nat.le_refl _, by decide, fun i hi => ⟨w.heap.size, 0, rfl, by simp, fun j v hv => ?_⟩⟩
  have hb := heap_alloc_new w (.cells #[.int .i64 x, .int .i64 y] 3)
  rcases i with _ | _ | i
  · rcases j with _ | j
    · injection hv with hv; subst hv; exact box_cell hb 0 _ rfl
    · simp [intCells] at hv
  · rcases j with _ | j
    · injection hv with hv; subst hv; exact box_cell hb 1 _ rfl
    · simp [intCells] at hv
  · simp at hi; omega

set_option maxRecDepth 100000 in
set_option maxHeartbeats 1000000 in
theorem compareWindows_any (v u : Pl.Win) (w : World) :
    Calls Try.prog 100 #[winV v, winV u] w fun e w' => e = .returned (.int .i64 (cmpW v u)) ∧ Below w.heap.size w w' := by
  have h1 := fun w => (cmpCompare_any v.f u.f w).mono (fun _ _ ⟨he, hw⟩ => (⟨he, hw.symm⟩ : _ ∧ _))
  have h2 := fun w => (cmpCompare_any v.t u.t w).mono (fun _ _ ⟨he, hw⟩ => (⟨he, hw.symm⟩ : _ ∧ _))
  have H1 := Lib.hid h1; have H2 := Lib.hid h2
  have h3 := fun w a c hA => cmpOr_any [cmpI v.f u.f, cmpI v.t u.t] a c w hA
  have H3 := Lib.hid h3
  unfold cmpW
  clear h1 h2 h3
  obtain ⟨x1, x2, x3⟩ := v; obtain ⟨y1, y2, y3⟩ := u
  simp only at *
  generalize cmpI x1 y1 = c1 at *; generalize cmpI x2 y2 = c2 at *
  go_enter Try.func100, Try.ntmps100
  go_wp2_with fail
  obtain ⟨W, hW⟩ : ∃ W, W = (w.alloc (.cells #[.int .i64 x1, .int .i64 x2, .int .i64 x3] 110)).alloc (.cells #[.int .i64 y1, .int .i64 y2, .int .i64 y3] 110) := ⟨_, rfl⟩
  rw [← hW]
  have f0 : W.cell? ⟨w.heap.size, 0, none⟩ = some (.int .i64 x1) := by rw [hW]; simp [go_sem]
  have f1 : W.cell? ⟨w.heap.size, 1, none⟩ = some (.int .i64 x2) := by rw [hW]; simp [go_sem]
  have f2 : W.cell? ⟨w.heap.size + 1, 0, none⟩ = some (.int .i64 y1) := by rw [hW]; simp [go_sem]
  have f3 : W.cell? ⟨w.heap.size + 1, 1, none⟩ = some (.int .i64 y2) := by rw [hW]; simp [go_sem]
  have HB := Lib.hid (show Below w.heap.size w W by rw [hW]; exact below_step (below_new _ _) (below_new _ _))
  clear hW
  go_still_tail 10, (by kernel_rfl)
  still_call (H1.out _)
  repeat still_step
  still_call (H2.out _)
  refine wpStill_nil ?_
  change wpList _ _ _ _ _ W.drew
  go_wp2_with fail
  refine (H3.out _ _ _ ((ints_lit2 W c1 c2).below (Below.refl _ _).drew)).mono ?_; rintro e w1 ⟨rfl, rfl⟩
  go_wp2_with fail
  go_ret
  exact ⟨rfl, (below_step HB.out (below_new _ _)).drew⟩
end Go.Proofs.Ytjdhjlhcdpekbaa.Pe
