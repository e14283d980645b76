/-
  Plans on paper: validity, scenarios, what happens, bookings; and what the laws of layer 8 ask of a run.
  What holds at the end of a run; a run that is later by some minutes.
  The numbers of the visits of a run keep within bounds.
-/
import Derived.Test.YtihohjgjklcnlaaDoorChecked
namespace Go.Proofs.YtihohjgjklcnlaaDoor.Pl

structure Slot where
  tool : Int
  start : Int
  deriving DecidableEq
structure Stage where
  mn : Int
  mx : Int
  m : Slot
  s : Slot
  deriving DecidableEq
structure Win where
  f : Int
  t : Int
  lim : Int
  deriving DecidableEq
structure Plan where
  entry : Int
  mmin : Int
  mmax : Int
  st : List Stage
  wn : List Win
  deriving DecidableEq
structure Scen where
  dur : List Int
  mv : List Int
  det : Int
  tool : Int
  at_ : Int
  deriving DecidableEq
structure Visit where
  step : Int
  tool : Int
  start : Int
  fin : Int
  deriving DecidableEq

/-! ### validity -/
def within (n a b : Int) : Bool := decide (a ≤ n) && decide (n ≤ b)
def isTool (t : Int) : Bool := within t 0 59
def okSlot (s : Slot) (d : Int) : Bool := isTool s.tool && within s.start 0 (1000000 - d)
def okStage (s : Stage) : Bool := within s.mn 1 s.mx && decide (s.mx ≤ 10000) && decide (s.m.tool ≠ s.s.tool) && okSlot s.m s.mx && okSlot s.s s.mx
def okStages (l : List Stage) : Bool := within (l.length : Int) 1 8 && l.all okStage
def okWin (n : Nat) (w : Win) : Bool := decide (0 ≤ w.f) && decide (w.f < w.t) && decide (w.t < n) && within w.lim 0 1000000
def before (a b : Win) : Bool := decide (a.f < b.f) || (decide (a.f = b.f) && decide (a.t < b.t))
/-- The windows from the k-th on are in order. -/
def okWinsFrom (n : Nat) : Option Win → List Win → Bool
  | _, [] => true
  | none, w :: l => okWin n w && okWinsFrom n (some w) l
  | some v, w :: l => okWin n w && before v w && okWinsFrom n (some w) l
def okWins (l : List Win) (n : Nat) : Bool := decide (l.length ≤ 20) && okWinsFrom n none l
def valid (p : Plan) : Bool := within p.entry 0 1000000 && within p.mmin 0 p.mmax && decide (p.mmax ≤ 10000) && okStages p.st && okWins p.wn p.st.length
def okDurs : List Int → List Stage → Bool
  | [], [] => true
  | d :: D, x :: l => within d x.mn x.mx && okDurs D l
  | _, _ => false
def okFail (tool at_ : Int) : Bool := (decide (tool = -1) && decide (at_ = 0)) || (isTool tool && within at_ 0 1000000)
def okMvs (l : List Int) (p : Plan) : Bool := decide (l.length = p.st.length) && l.all (fun m => within m p.mmin p.mmax)
def possible (p : Plan) (s : Scen) : Bool := valid p && okDurs s.dur p.st && okMvs s.mv p && within s.det p.mmin p.mmax && okFail s.tool s.at_

/-! ### what happens -/
def loses (s : Scen) (x : Slot) (d : Int) : Bool := decide (s.tool = x.tool) && decide (s.at_ < x.start + d)
def slot (x : Stage) (s : Scen) (t m d : Int) : Option Slot :=
  if loses s x.m d = true then
    if s.at_ ≤ t then (if t + m ≤ x.s.start then some x.s else none)
    else if s.at_ < x.m.start then (if max (t + m) s.at_ + s.det ≤ x.s.start then some x.s else none)
    else (if t + m ≤ x.m.start ∧ s.at_ + s.det ≤ x.s.start then some x.s else none)
  else (if t + m ≤ x.m.start then some x.m else none)
def visit0 : Visit := ⟨0, 0, 0, 0⟩
def nth (V : List Visit) (i : Int) : Visit := V.getD i.toNat visit0
def missed (V : List Visit) (w : Win) : Bool := decide ((nth V w.t).start - (nth V w.f).fin > w.lim)
/-- The first window that is missed at stage i, from the k-th on. -/
def firstMiss (V : List Visit) (i : Nat) : List Win → Nat → Option Nat
  | [], _ => none
  | w :: l, k => if w.t = (i : Int) ∧ missed V w = true then some k else firstMiss V i l (k + 1)
structure Res where
  V : List Visit
  kind : Int
  num : Int
  deriving DecidableEq
def runFrom (wn : List Win) (s : Scen) : List Stage → Nat → Int → List Visit → Res
  | [], _, _, V => ⟨V, 0, 0⟩
  | x :: l, i, t, V =>
    match slot x s t (s.mv.getD i 0) (s.dur.getD i 0) with
    | none => ⟨V, 1, i⟩
    | some o =>
      match firstMiss (V ++ [⟨i, o.tool, o.start, o.start + s.dur.getD i 0⟩]) i wn 0 with
      | some k => ⟨V ++ [⟨i, o.tool, o.start, o.start + s.dur.getD i 0⟩], 2, k⟩
      | none => runFrom wn s l (i + 1) (o.start + s.dur.getD i 0) (V ++ [⟨i, o.tool, o.start, o.start + s.dur.getD i 0⟩])
def run (p : Plan) (s : Scen) : Res := runFrom p.wn s p.st 0 p.entry []

/-! ### bookings -/
structure Bk where
  tool : Int
  s : Int
  e : Int
  o : Int
  deriving DecidableEq
def books (l : List Stage) (o : Int) : List Bk := l.flatMap fun x => [⟨x.m.tool, x.m.start, x.m.start + x.mx, o⟩, ⟨x.s.tool, x.s.start, x.s.start + x.mx, o⟩]
def bookings (p : Plan) (o : Int) : List Bk := if valid p && within o 1 1000000 then books p.st o else []

/-! ### what follows -/
theorem within_iff {n a b : Int} : within n a b = true ↔ a ≤ n ∧ n ≤ b := by simp [within]
theorem okSlot_iff {s : Slot} {d : Int} : okSlot s d = true ↔ (0 ≤ s.tool ∧ s.tool ≤ 59) ∧ 0 ≤ s.start ∧ s.start ≤ 1000000 - d := by simp [okSlot, isTool, within_iff]
structure OkStage (x : Stage) : Prop where
  mn : 1 ≤ x.mn
  mx : x.mn ≤ x.mx
  top : x.mx ≤ 10000
  ne : x.m.tool ≠ x.s.tool
  mt : 0 ≤ x.m.tool ∧ x.m.tool ≤ 59
  ms : 0 ≤ x.m.start ∧ x.m.start ≤ 1000000 - x.mx
  st : 0 ≤ x.s.tool ∧ x.s.tool ≤ 59
  ss : 0 ≤ x.s.start ∧ x.s.start ≤ 1000000 - x.mx
theorem okStage_iff {x : Stage} : okStage x = true ↔ OkStage x := by
  simp only [okStage, Bool.and_eq_true, within_iff, okSlot_iff, decide_eq_true_eq]
  exact ⟨fun ⟨⟨⟨⟨h1, h2⟩, h3⟩, h4⟩, h5⟩ => ⟨h1.1, h1.2, h2, h3, h4.1, h4.2, h5.1, h5.2⟩, fun h => ⟨⟨⟨⟨⟨h.mn, h.mx⟩, h.top⟩, h.ne⟩, h.mt, h.ms⟩, h.st, h.ss⟩⟩
structure OkWin (n : Nat) (w : Win) : Prop where
  f : 0 ≤ w.f
  ft : w.f < w.t
  t : w.t < n
  l : 0 ≤ w.lim ∧ w.lim ≤ 1000000
theorem okWin_iff {n : Nat} {w : Win} : okWin n w = true ↔ OkWin n w := by
  simp only [okWin, Bool.and_eq_true, within_iff, decide_eq_true_eq]
  exact ⟨fun ⟨⟨⟨h1, h2⟩, h3⟩, h4⟩ => ⟨h1, h2, h3, h4⟩, fun h => ⟨⟨⟨h.f, h.ft⟩, h.t⟩, h.l⟩⟩
theorem okWinsFrom_all {n : Nat} : ∀ {l : List Win} {v : Option Win}, okWinsFrom n v l = true → ∀ w ∈ l, OkWin n w
  | [], _, _, w, hw => by cases hw
  | x :: l, v, h, w, hw => by
    have h' : okWin n x = true ∧ okWinsFrom n (some x) l = true := by
      cases v <;> simp only [okWinsFrom, Bool.and_eq_true] at h
      · exact h
      · exact ⟨h.1.1, h.2⟩
    rcases List.mem_cons.1 hw with rfl | hw
    · exact okWin_iff.1 h'.1
    · exact okWinsFrom_all h'.2 w hw
structure Valid (p : Plan) : Prop where
  entry : 0 ≤ p.entry ∧ p.entry ≤ 1000000
  mmin : 0 ≤ p.mmin ∧ p.mmin ≤ p.mmax
  mmax : p.mmax ≤ 10000
  len : 1 ≤ p.st.length ∧ p.st.length ≤ 8
  st : ∀ x ∈ p.st, OkStage x
  wlen : p.wn.length ≤ 20
  wn : ∀ w ∈ p.wn, OkWin p.st.length w
  asc : okWinsFrom p.st.length none p.wn = true
theorem valid_iff {p : Plan} : valid p = true ↔ Valid p := by
  simp only [valid, okStages, okWins, Bool.and_eq_true, within_iff, decide_eq_true_eq, List.all_eq_true]
  constructor
  · rintro ⟨⟨⟨⟨h1, h2⟩, h3⟩, h4, h5⟩, h6, h7⟩
    exact ⟨h1, h2, h3, by omega, fun x hx => okStage_iff.1 (h5 x hx), h6, okWinsFrom_all h7, h7⟩
  · intro h
    have := h.len
    exact ⟨⟨⟨⟨h.entry, h.mmin⟩, h.mmax⟩, by omega, fun x hx => okStage_iff.2 (h.st x hx)⟩, h.wlen, h.asc⟩
theorem okDurs_iff : ∀ {D : List Int} {l : List Stage}, okDurs D l = true ↔ D.length = l.length ∧ ∀ i (h : i < l.length), l[i].mn ≤ D.getD i 0 ∧ D.getD i 0 ≤ l[i].mx
  | [], [] => by simp [okDurs]
  | [], x :: l => by simp [okDurs]
  | d :: D, [] => by simp [okDurs]
  | d :: D, x :: l => by
    simp only [okDurs, Bool.and_eq_true, within_iff, okDurs_iff (D := D) (l := l), List.length_cons]
    constructor
    · rintro ⟨h1, h2, h3⟩
      refine ⟨by omega, fun i hi => ?_⟩
      cases i with
      | zero => exact h1
      | succ i => exact h3 i (by omega)
    · rintro ⟨h1, h2⟩
      exact ⟨h2 0 (by omega), by omega, fun i hi => h2 (i + 1) (by omega)⟩
structure Poss (p : Plan) (s : Scen) : Prop where
  v : Valid p
  dlen : s.dur.length = p.st.length
  dur : ∀ i (h : i < p.st.length), p.st[i].mn ≤ s.dur.getD i 0 ∧ s.dur.getD i 0 ≤ p.st[i].mx
  mlen : s.mv.length = p.st.length
  mv : ∀ i, i < p.st.length → p.mmin ≤ s.mv.getD i 0 ∧ s.mv.getD i 0 ≤ p.mmax
  det : p.mmin ≤ s.det ∧ s.det ≤ p.mmax
  fail : (s.tool = -1 ∧ s.at_ = 0) ∨ ((0 ≤ s.tool ∧ s.tool ≤ 59) ∧ 0 ≤ s.at_ ∧ s.at_ ≤ 1000000)
theorem getD_mem {l : List Int} {i : Nat} (h : i < l.length) : l.getD i 0 ∈ l := by
  rw [List.getD_eq_getElem?_getD, List.getElem?_eq_getElem h]; exact List.getElem_mem h
theorem possible_iff {p : Plan} {s : Scen} : possible p s = true ↔ Poss p s := by
  simp only [possible, okMvs, okFail, isTool, Bool.and_eq_true, Bool.or_eq_true, within_iff, decide_eq_true_eq, List.all_eq_true, valid_iff, okDurs_iff]
  constructor
  · rintro ⟨⟨⟨⟨h1, h2, h3⟩, h4, h5⟩, h6⟩, h7⟩
    exact ⟨h1, h2, h3, h4, fun i hi => h5 _ (getD_mem (by omega)), h6, h7⟩
  · intro h
    refine ⟨⟨⟨⟨h.v, h.dlen, h.dur⟩, h.mlen, fun m hm => ?_⟩, h.det⟩, h.fail⟩
    obtain ⟨i, hi, rfl⟩ := List.mem_iff_getElem.1 hm
    have := h.mv i (by have := h.mlen; omega)
    rwa [List.getD_eq_getElem?_getD, List.getElem?_eq_getElem hi] at this

/-- What holds of a slot that is found. -/
theorem slot_some {x : Stage} {s : Scen} {t m d : Int} {o : Slot} (hd : 0 ≤ s.det) (h : slot x s t m d = some o) :
    t + m ≤ o.start ∧ ((o = x.m ∧ ¬ (s.tool = x.m.tool ∧ s.at_ < x.m.start + d)) ∨ (o = x.s ∧ s.tool = x.m.tool ∧ s.at_ < x.m.start + d)) := by
  unfold slot loses at h
  simp only [Bool.and_eq_true, decide_eq_true_eq] at h
  split at h
  · rename_i hl
    split at h
    · split at h
      · cases h; exact ⟨by assumption, .inr ⟨rfl, hl⟩⟩
      · cases h
    · split at h
      · split at h
        · cases h; exact ⟨by omega, .inr ⟨rfl, hl⟩⟩
        · cases h
      · split at h
        · cases h; exact ⟨by omega, .inr ⟨rfl, hl⟩⟩
        · cases h
  · rename_i hl
    split at h
    · cases h; exact ⟨by assumption, .inl ⟨rfl, hl⟩⟩
    · cases h
/-- Shorter moves do no harm. -/
theorem slot_mono {x : Stage} {s s' : Scen} {t m m' d : Int} {o : Slot} (h1 : s'.tool = s.tool) (h2 : s'.at_ = s.at_) (hm : m' ≤ m) (hd : s'.det ≤ s.det) (h : slot x s t m d = some o) : slot x s' t m' d = some o := by
  have e : loses s' x.m d = loses s x.m d := by unfold loses; rw [h1, h2]
  unfold slot at h ⊢
  rw [e, h2]
  split at h
  · rename_i hl
    rw [if_pos hl]
    split at h
    · rename_i ha
      rw [if_pos ha]
      split at h
      · rw [if_pos (by omega)]; exact h
      · cases h
    · rename_i ha
      rw [if_neg ha]
      split at h
      · rename_i hb
        rw [if_pos hb]
        split at h
        · rw [if_pos (by omega)]; exact h
        · cases h
      · rename_i hb
        rw [if_neg hb]
        split at h
        · rw [if_pos (by omega)]; exact h
        · cases h
  · rename_i hl
    rw [if_neg hl]
    split at h
    · rw [if_pos (by omega)]; exact h
    · cases h
theorem run_mono {wn : List Win} {s s' : Scen} (h1 : s'.tool = s.tool) (h2 : s'.at_ = s.at_) (h3 : s'.dur = s.dur) (hd : s'.det ≤ s.det) : ∀ (l : List Stage) (i : Nat) (t : Int) (V : List Visit), (∀ k, k < i + l.length → s'.mv.getD k 0 ≤ s.mv.getD k 0) →
    (runFrom wn s l i t V).kind = 0 → runFrom wn s' l i t V = runFrom wn s l i t V
  | [], _, _, _, _, _ => rfl
  | x :: l, i, t, V, hm, hk => by
    unfold runFrom at hk ⊢
    rw [h3]
    cases hs : slot x s t (s.mv.getD i 0) (s.dur.getD i 0) with
    | none => rw [hs] at hk; simp at hk
    | some o =>
      rw [hs] at hk
      rw [slot_mono h1 h2 (hm i (by simp)) hd hs]
      simp only at hk ⊢
      cases hf : firstMiss (V ++ [⟨i, o.tool, o.start, o.start + s.dur.getD i 0⟩]) i wn 0 with
      | some k => rfl
      | none =>
        rw [hf] at hk
        simp only at hk ⊢
        exact run_mono h1 h2 h3 hd l (i + 1) _ _ (fun k hk' => hm k (by simp; omega)) hk
/-- The same slots, the same run. -/
theorem run_same {wn : List Win} {s s' : Scen} (h3 : s'.dur = s.dur) : ∀ (l : List Stage) (i : Nat) (t : Int) (V : List Visit), (∀ k (h : k < l.length) t, slot l[k] s' t (s'.mv.getD (i + k) 0) (s.dur.getD (i + k) 0) = slot l[k] s t (s.mv.getD (i + k) 0) (s.dur.getD (i + k) 0)) →
    runFrom wn s' l i t V = runFrom wn s l i t V
  | [], _, _, _, _ => rfl
  | x :: l, i, t, V, h => by
    unfold runFrom
    rw [h3, show slot x s' t (s'.mv.getD i 0) (s.dur.getD i 0) = slot x s t (s.mv.getD i 0) (s.dur.getD i 0) from h 0 (by simp) t]
    cases slot x s t (s.mv.getD i 0) (s.dur.getD i 0) with
    | none => rfl
    | some o =>
      simp only
      cases firstMiss (V ++ [⟨i, o.tool, o.start, o.start + s.dur.getD i 0⟩]) i wn 0 with
      | some k => rfl
      | none =>
        simp only
        refine run_same h3 l (i + 1) _ _ (fun k hk t => ?_)
        have := h (k + 1) (by simp; omega) t
        rw [show i + 1 + k = i + (k + 1) by omega]
        exact this
end Go.Proofs.YtihohjgjklcnlaaDoor.Pl

namespace Go.Proofs.YtihohjgjklcnlaaDoor.Pl

theorem nth_lt {V : List Visit} {k : Nat} (h : k < V.length) : nth V (k : Int) = V[k] := by
  unfold nth; rw [Int.toNat_natCast, List.getD_eq_getElem?_getD, List.getElem?_eq_getElem h]; rfl
theorem nth_app {V U : List Visit} {k : Nat} (h : k < V.length) : nth (V ++ U) (k : Int) = nth V (k : Int) := by
  rw [nth_lt h, nth_lt (by rw [List.length_append]; omega), List.getElem_append_left h]
theorem nth_last (V : List Visit) (v : Visit) : nth (V ++ [v]) (V.length : Int) = v := by
  rw [nth_lt (by simp)]; simp
/-- When the wafers leave for stage k. -/
def leave (p : Plan) (V : List Visit) (k : Nat) : Int := if k = 0 then p.entry else (nth V ((k - 1 : Nat) : Int)).fin
/-- Stage k is processed as it should be. -/
structure Done (p : Plan) (s : Scen) (V : List Visit) (k : Nat) (x : Stage) : Prop where
  step : (nth V k).step = k
  slot : slot x s (leave p V k) (s.mv.getD k 0) (s.dur.getD k 0) = some ⟨(nth V k).tool, (nth V k).start⟩
  fin : (nth V k).fin = (nth V k).start + s.dur.getD k 0
structure Steps (p : Plan) (s : Scen) (i : Nat) (V : List Visit) : Prop where
  len : V.length = i
  each : ∀ k (h : k < p.st.length), k < i → Done p s V k p.st[k]
def Kept (p : Plan) (i : Nat) (V : List Visit) : Prop := ∀ w ∈ p.wn, w.t < i → missed V w = false
theorem firstMiss_none {V : List Visit} {i : Nat} : ∀ {l : List Win} {k : Nat}, firstMiss V i l k = none → ∀ w ∈ l, w.t = (i : Int) → missed V w = false
  | [], _, _, w, hw, _ => by cases hw
  | x :: l, k, h, w, hw, ht => by
    unfold firstMiss at h
    split at h
    · cases h
    · rename_i hn
      rcases List.mem_cons.1 hw with rfl | hw
      · cases hm : missed V w
        · rfl
        · exact absurd ⟨ht, hm⟩ hn
      · exact firstMiss_none h w hw ht
theorem firstMiss_some {V : List Visit} {i : Nat} : ∀ {l : List Win} {k m : Nat}, firstMiss V i l k = some m → ∃ j, ∃ h : j < l.length, m = k + j ∧ l[j].t = (i : Int) ∧ missed V l[j] = true ∧ ∀ q (hq : q < j), l[q].t = (i : Int) → missed V l[q] = false
  | [], _, _, h => by cases h
  | x :: l, k, m, h => by
    unfold firstMiss at h
    split at h
    · rename_i hx
      cases h
      exact ⟨0, by simp, by omega, hx.1, hx.2, fun q hq => by omega⟩
    · rename_i hn
      obtain ⟨j, hj, e, h1, h2, h3⟩ := firstMiss_some h
      refine ⟨j + 1, by simp; omega, by omega, h1, h2, fun q hq => ?_⟩
      cases q with
      | zero =>
        intro ht
        cases hm : missed V x
        · simpa using hm
        · exact absurd ⟨ht, hm⟩ hn
      | succ q => intro ht; simpa using h3 q (by omega) (by simpa using ht)
/-- How a run ends. -/
inductive Ended (p : Plan) (s : Scen) (R : Res) : Prop where
  | never : R.kind = 0 → R.num = 0 → Steps p s p.st.length R.V → Kept p p.st.length R.V → Ended p s R
  | atSlot (j : Nat) : R.kind = 1 → R.num = j → j < p.st.length → Steps p s j R.V → Kept p j R.V → Ended p s R
  | atWin (j k : Nat) (h : k < p.wn.length) : R.kind = 2 → R.num = k → j < p.st.length → Steps p s (j + 1) R.V → Kept p j R.V → p.wn[k].t = j → missed R.V p.wn[k] = true →
      (∀ q (hq : q < k), p.wn[q].t = j → missed R.V p.wn[q] = false) → Ended p s R
theorem missed_app {V U : List Visit} {w : Win} (h0 : 0 ≤ w.f) (h1 : w.f < w.t) (h2 : w.t < V.length) : missed (V ++ U) w = missed V w := by
  obtain ⟨a, ha⟩ := Int.eq_ofNat_of_zero_le h0
  obtain ⟨b, hb⟩ := Int.eq_ofNat_of_zero_le (show 0 ≤ w.t by omega)
  unfold missed
  rw [ha, hb, nth_app (by omega), nth_app (by omega)]
theorem Steps.snoc {p : Plan} {s : Scen} {i : Nat} {V : List Visit} (h : Steps p s i V) (hi : i < p.st.length) {o : Slot} (ho : slot p.st[i] s (leave p V i) (s.mv.getD i 0) (s.dur.getD i 0) = some o) :
    Steps p s (i + 1) (V ++ [⟨i, o.tool, o.start, o.start + s.dur.getD i 0⟩]) := by
  have hl := h.len
  have old : ∀ k : Nat, k < i → nth (V ++ [⟨i, o.tool, o.start, o.start + s.dur.getD i 0⟩]) (k : Int) = nth V k := fun k hk => nth_app (by omega)
  have lv : ∀ k, k ≤ i → leave p (V ++ [⟨i, o.tool, o.start, o.start + s.dur.getD i 0⟩]) k = leave p V k := fun k hk => by
    unfold leave
    split
    · rfl
    · rw [old _ (by omega)]
  refine ⟨by simp [hl], fun k hk hki => ?_⟩
  by_cases e : k = i
  · subst e
    have hn : nth (V ++ [⟨(k : Int), o.tool, o.start, o.start + s.dur.getD k 0⟩]) (k : Int) = ⟨k, o.tool, o.start, o.start + s.dur.getD k 0⟩ := by
      have := nth_last V ⟨(k : Int), o.tool, o.start, o.start + s.dur.getD k 0⟩
      rwa [hl] at this
    exact ⟨by rw [hn], by rw [hn, lv _ (Nat.le_refl _)]; exact ho, by rw [hn]⟩
  · have hd := h.each k hk (by omega)
    exact ⟨by rw [old _ (by omega)]; exact hd.step, by rw [old _ (by omega), lv _ (by omega)]; exact hd.slot, by rw [old _ (by omega)]; exact hd.fin⟩
theorem ended_from {p : Plan} {s : Scen} (hv : ∀ w ∈ p.wn, OkWin p.st.length w) : ∀ (l : List Stage) (i : Nat) (t : Int) (V : List Visit), l = p.st.drop i → i ≤ p.st.length → Steps p s i V → Kept p i V → t = leave p V i → Ended p s (runFrom p.wn s l i t V)
  | [], i, t, V, hl, hi, h1, h2, _ => by
    have e : i = p.st.length := by
      have := congrArg List.length hl
      rw [List.length_drop] at this; simp at this; omega
    subst e
    exact .never rfl rfl h1 h2
  | x :: l, i, t, V, hl, hi, h1, h2, ht => by
    have hlt : i < p.st.length := by
      have := congrArg List.length hl
      rw [List.length_drop] at this; simp at this; omega
    have hd : p.st.drop i = p.st[i] :: p.st.drop (i + 1) := List.drop_eq_getElem_cons hlt
    rw [hd] at hl
    obtain ⟨rfl, hl'⟩ := List.cons.inj hl
    unfold runFrom
    cases hs : slot p.st[i] s t (s.mv.getD i 0) (s.dur.getD i 0) with
    | none => exact .atSlot i rfl rfl hlt h1 h2
    | some o =>
      simp only
      rw [ht] at hs
      have h3 := h1.snoc hlt hs
      have h2' : Kept p i (V ++ [⟨(i : Int), o.tool, o.start, o.start + s.dur.getD i 0⟩]) := fun w hw hwt => by
        have ok := hv w hw
        rw [missed_app ok.f ok.ft (by rw [h1.len]; exact hwt)]
        exact h2 w hw hwt
      cases hf : firstMiss (V ++ [⟨(i : Int), o.tool, o.start, o.start + s.dur.getD i 0⟩]) i p.wn 0 with
      | some k =>
        obtain ⟨j, hj, e, h4, h5, h6⟩ := firstMiss_some hf
        obtain rfl : k = j := by omega
        exact .atWin i k hj rfl rfl hlt h3 h2' h4 h5 h6
      | none =>
        simp only
        refine ended_from hv l (i + 1) _ _ hl' hlt h3 (fun w hw hwt => ?_) ?_
        · by_cases hwi : w.t < i
          · exact h2' w hw hwi
          · exact firstMiss_none hf w hw (by omega)
        · unfold leave
          rw [if_neg (by omega), Nat.add_sub_cancel]
          have := nth_last V ⟨(i : Int), o.tool, o.start, o.start + s.dur.getD i 0⟩
          rw [h1.len] at this
          rw [this]
theorem ended {p : Plan} {s : Scen} (hv : Valid p) : Ended p s (run p s) :=
  ended_from hv.wn p.st 0 p.entry [] rfl (by omega) ⟨rfl, fun k _ h => absurd h (Nat.not_lt_zero k)⟩ (fun w hw h => by have := (hv.wn w hw).f; have := (hv.wn w hw).ft; omega) rfl

/-- What a stage that was processed tells. -/
theorem done_of {p : Plan} {s : Scen} (hp : Poss p s) {V : List Visit} {k : Nat} (hk : k < p.st.length) (h : Done p s V k p.st[k]) :
    leave p V k + p.mmin ≤ (nth V k).start ∧ (nth V k).fin = (nth V k).start + s.dur.getD k 0 ∧ (((nth V k).tool = p.st[k].m.tool ∧ (nth V k).start = p.st[k].m.start ∧ (s.tool = p.st[k].m.tool → (nth V k).fin ≤ s.at_)) ∨ ((nth V k).tool = p.st[k].s.tool ∧ (nth V k).start = p.st[k].s.start)) := by
  have h1 := hp.v.mmin
  have h2 := hp.mv k hk
  obtain ⟨h3, h4⟩ := slot_some (by have := hp.det; omega) h.slot
  refine ⟨by simp only at h3; omega, h.fin, ?_⟩
  have hf := h.fin
  rcases h4 with ⟨e, h4⟩ | ⟨e, h4⟩
  · left
    rw [← e] at h4 ⊢
    refine ⟨rfl, rfl, fun ht => ?_⟩
    simp only at h4 ⊢
    have : ¬ (s.at_ < (nth V k).start + s.dur.getD k 0) := fun hc => h4 ⟨ht, hc⟩
    omega
  · right
    rw [← e]
    exact ⟨rfl, rfl⟩

/-! ### later -/
def shSlot (by_ : Int) (o : Slot) : Slot := ⟨o.tool, o.start + by_⟩
def shStage (by_ : Int) (x : Stage) : Stage := ⟨x.mn, x.mx, shSlot by_ x.m, shSlot by_ x.s⟩
def shVisit (by_ : Int) (v : Visit) : Visit := ⟨v.step, v.tool, v.start + by_, v.fin + by_⟩
def shPlan (by_ : Int) (p : Plan) : Plan := ⟨p.entry + by_, p.mmin, p.mmax, p.st.map (shStage by_), p.wn⟩
theorem slot_sh {b : Int} {x : Stage} {s s' : Scen} {t m d : Int} (hx : 0 ≤ x.m.tool) (h1 : s'.tool = s.tool) (h2 : s.tool = -1 ∨ s'.at_ = s.at_ + b) (h3 : s'.det = s.det) : slot (shStage b x) s' (t + b) m d = (slot x s t m d).map (shSlot b) := by
  obtain ⟨mn, mx, ⟨mt, ms⟩, ⟨st, ss⟩⟩ := x
  simp only at hx
  show slot ⟨mn, mx, ⟨mt, ms + b⟩, ⟨st, ss + b⟩⟩ s' (t + b) m d = _
  rcases h2 with h2 | h2
  · simp only [slot, loses, Bool.and_eq_true, decide_eq_true_eq, h1, h2, h3]
    repeat' split
    all_goals first | rfl | (exfalso; omega) | (simp [shSlot]; done)
  · simp only [slot, loses, Bool.and_eq_true, decide_eq_true_eq, h1, h2, h3]
    repeat' split
    all_goals first | rfl | (exfalso; omega) | (simp [shSlot]; done)
theorem nth_sh {b : Int} {V : List Visit} {i : Int} (h0 : 0 ≤ i) (h : i < V.length) : nth (V.map (shVisit b)) i = shVisit b (nth V i) := by
  obtain ⟨k, rfl⟩ := Int.eq_ofNat_of_zero_le h0
  rw [nth_lt (V := V) (by omega), nth_lt (V := V.map (shVisit b)) (by rw [List.length_map]; omega), List.getElem_map]
theorem missed_sh {b : Int} {V : List Visit} {w : Win} (h0 : 0 ≤ w.f) (h1 : w.f < w.t) (h2 : w.t < V.length) : missed (V.map (shVisit b)) w = missed V w := by
  unfold missed
  rw [nth_sh (by omega) h2, nth_sh h0 (by omega)]
  unfold shVisit
  rw [decide_eq_decide]; simp only; omega
theorem firstMiss_sh {b : Int} {V : List Visit} {i : Nat} {n : Nat} (hi : V.length = i + 1) : ∀ (l : List Win) (k : Nat), (∀ w ∈ l, OkWin n w) → firstMiss (V.map (shVisit b)) i l k = firstMiss V i l k
  | [], _, _ => rfl
  | w :: l, k, h => by
    unfold firstMiss
    rw [firstMiss_sh hi l (k + 1) (fun w hw => h w (List.mem_cons_of_mem _ hw))]
    have ok := h w (by simp)
    by_cases ht : w.t = (i : Int)
    · rw [missed_sh ok.f ok.ft (by omega)]
    · rw [if_neg (fun h => ht h.1), if_neg (fun h => ht h.1)]
theorem run_sh {b : Int} {wn : List Win} {n : Nat} {s s' : Scen} (hw : ∀ w ∈ wn, OkWin n w) (h1 : s'.tool = s.tool) (h2 : s.tool = -1 ∨ s'.at_ = s.at_ + b) (h3 : s'.det = s.det) (h4 : s'.dur = s.dur) (h5 : s'.mv = s.mv) :
    ∀ (l : List Stage) (i : Nat) (t : Int) (V : List Visit), V.length = i → (∀ x ∈ l, 0 ≤ x.m.tool) → runFrom wn s' (l.map (shStage b)) i (t + b) (V.map (shVisit b)) = ⟨(runFrom wn s l i t V).V.map (shVisit b), (runFrom wn s l i t V).kind, (runFrom wn s l i t V).num⟩
  | [], i, t, V, _, _ => rfl
  | x :: l, i, t, V, hV, hx => by
    rw [List.map_cons]
    unfold runFrom
    rw [h4, h5, slot_sh (hx x (by simp)) h1 h2 h3]
    cases hs : slot x s t (s.mv.getD i 0) (s.dur.getD i 0) with
    | none => rfl
    | some o =>
      simp only [Option.map_some]
      have e0 : o.start + b + s.dur.getD i 0 = o.start + s.dur.getD i 0 + b := by omega
      have e : V.map (shVisit b) ++ [(⟨(i : Int), (shSlot b o).tool, (shSlot b o).start, (shSlot b o).start + s.dur.getD i 0⟩ : Visit)] = (V ++ [(⟨(i : Int), o.tool, o.start, o.start + s.dur.getD i 0⟩ : Visit)]).map (shVisit b) := by
        rw [List.map_append, List.map_cons, List.map_nil]; show _ = _ ++ [(⟨(i : Int), o.tool, o.start + b, o.start + s.dur.getD i 0 + b⟩ : Visit)]; rw [← e0]; rfl
      have e2 : (shSlot b o).start + s.dur.getD i 0 = o.start + s.dur.getD i 0 + b := e0
      rw [e, firstMiss_sh (by simp [hV]) wn 0 hw]
      cases hf : firstMiss (V ++ [⟨(i : Int), o.tool, o.start, o.start + s.dur.getD i 0⟩]) i wn 0 with
      | some k => rfl
      | none =>
        show runFrom wn s' _ (i + 1) ((shSlot b o).start + s.dur.getD i 0) _ = _
        rw [e2]
        exact run_sh hw h1 h2 h3 h4 h5 l (i + 1) _ _ (by simp [hV]) (fun x hx' => hx x (List.mem_cons_of_mem _ hx'))
end Go.Proofs.YtihohjgjklcnlaaDoor.Pl

namespace Go.Proofs.YtihohjgjklcnlaaDoor.Pl

theorem steps_bd {p : Plan} {s : Scen} {i : Nat} {V : List Visit} (hp : Poss p s) (hi : i ≤ p.st.length) (h : Steps p s i V) {k : Nat} (hk : k < i) :
    (0 ≤ (nth V k).start ∧ (nth V k).start ≤ 1000000) ∧ 0 ≤ (nth V k).fin ∧ (nth V k).fin ≤ 1010000 := by
  have hkl : k < p.st.length := by omega
  obtain ⟨-, h2, h3⟩ := done_of hp hkl (h.each k hkl hk)
  have ok := hp.v.st p.st[k] (List.getElem_mem hkl)
  have hd := hp.dur k hkl
  have o1 := ok.mn; have o2 := ok.mx; have o3 := ok.top; have o4 := ok.ms; have o5 := ok.ss
  rcases h3 with ⟨-, e, -⟩ | ⟨-, e⟩ <;> omega
/-- The visits of a run, whatever its end. -/
theorem ended_steps {p : Plan} {s : Scen} {R : Res} (h : Ended p s R) : Steps p s R.V.length R.V ∧ R.V.length ≤ p.st.length := by
  rcases h with ⟨-, -, h, -⟩ | ⟨j, -, -, hj, h, -⟩ | ⟨j, k, -, -, -, hj, h, -⟩
  · have := h.len; rw [this]; exact ⟨h, Nat.le_refl _⟩
  · have := h.len; rw [this]; exact ⟨h, by omega⟩
  · have := h.len; rw [this]; exact ⟨h, by omega⟩
theorem ended_bd {p : Plan} {s : Scen} {R : Res} (hp : Poss p s) (h : Ended p s R) {k : Nat} (hk : k < R.V.length) :
    (0 ≤ (nth R.V k).start ∧ (nth R.V k).start ≤ 1000000) ∧ 0 ≤ (nth R.V k).fin ∧ (nth R.V k).fin ≤ 1010000 :=
  steps_bd hp (ended_steps h).2 (ended_steps h).1 hk
end Go.Proofs.YtihohjgjklcnlaaDoor.Pl
