/-
  Safe plans on paper: a chain of stages, each linked to the one before it; the margins of windows; tight plans.
  The plans of the law file's generator are fine; tight ones are safe without windows.
-/
import Derived.Test.YtihohjgjklcnlaaDoorQBm
import Derived.Test.YtihohjgjklcnlaaDoorQBf
namespace Go.Proofs.YtihohjgjklcnlaaDoor.Pl

/-- What a stage asks of the one before it. -/
def linked (M : Int) (b x : Stage) : Prop := b.m.start + b.mx + M ≤ x.m.start ∧ (b.m.tool = x.m.tool → b.s.start + b.mx + M ≤ x.s.start) ∧ (b.m.tool ≠ x.m.tool → b.s.start + b.mx + M ≤ x.m.start)
def spared (M : Int) (x : Stage) : Prop := x.m.start + x.mx - 1 + M ≤ x.s.start
def linkO (M en : Int) : Option Stage → Stage → Prop
  | none, x => en + M ≤ x.m.start
  | some b, x => linked M b x
def chainO (M en : Int) : Option Stage → List Stage → Prop
  | _, [] => True
  | o, x :: l => linkO M en o x ∧ spared M x ∧ chainO M en (some x) l
theorem after_chain {M en : Int} (hM : 0 ≤ M) : ∀ {l : List Stage} {b : Stage}, (∀ x ∈ l, OkStage x) → chainO M en (some b) l → good M l (b.m.start + b.mx) ∧ after M b.m.tool l (b.s.start + b.mx) ∧ ∀ T, after M T l (b.m.start + b.mx)
  | [], _, _, _ => ⟨trivial, trivial, fun _ => trivial⟩
  | x :: l, b, ho, h => by
    obtain ⟨h1, h2, h3⟩ := h
    obtain ⟨g1, g2, g3⟩ := after_chain hM (fun y hy => ho y (List.mem_cons_of_mem _ hy)) h3
    have ok := ho x (by simp)
    have := ok.mn; have := ok.mx
    have a1 : b.m.start + b.mx + M ≤ x.m.start := h1.1
    have a2 : x.m.start + x.mx - 1 + M ≤ x.s.start := h2
    refine ⟨⟨a1, a2, g2, g1⟩, ⟨fun e => ⟨h1.2.1 e.symm, by rw [← e]; exact g2⟩, fun e => ⟨h1.2.2 (fun e' => e e'.symm), g3 _⟩⟩, fun T => ⟨fun e => ⟨by omega, by rw [← e]; exact g2⟩, fun e => ⟨a1, g3 T⟩⟩⟩
theorem chain_good {M en : Int} : ∀ {l : List Stage} {b : Stage}, good M l (b.m.start + b.mx) → after M b.m.tool l (b.s.start + b.mx) → chainO M en (some b) l
  | [], _, _, _ => trivial
  | _ :: _, _, hg, ha => ⟨⟨hg.1, fun e => (ha.1 e.symm).1, fun e => (ha.2 (fun e' => e e'.symm)).1⟩, hg.2.1, chain_good hg.2.2.2 hg.2.2.1⟩
theorem good_iff {M t : Int} (hM : 0 ≤ M) {l : List Stage} (ho : ∀ x ∈ l, OkStage x) : good M l t ↔ chainO M t none l := by
  cases l with
  | nil => exact ⟨fun _ => trivial, fun _ => trivial⟩
  | cons x l =>
    constructor
    · exact fun hg => ⟨hg.1, hg.2.1, chain_good hg.2.2.2 hg.2.2.1⟩
    · rintro ⟨h1, h2, h3⟩
      obtain ⟨g1, g2, -⟩ := after_chain hM (fun y hy => ho y (List.mem_cons_of_mem _ hy)) h3
      exact ⟨h1, h2, g2, g1⟩
theorem safe_chain {p : Plan} (hv : Valid p) : SafeC p ↔ chainO p.mmax p.entry none p.st ∧ wide p := by
  have hM : 0 ≤ p.mmax := by have := hv.mmin; omega
  exact ⟨fun h => ⟨(good_iff hM hv.st).1 h.g, h.w⟩, fun h => ⟨(good_iff hM hv.st).2 h.1, h.2⟩⟩
theorem chain_iff {M en : Int} : ∀ {l : List Stage} {o : Option Stage}, chainO M en o l ↔ (∀ h : 0 < l.length, linkO M en o l[0]) ∧ (∀ x ∈ l, spared M x) ∧ ∀ i (h : i + 1 < l.length), linked M l[i] l[i + 1]
  | [], o => ⟨fun _ => ⟨fun h => absurd h (Nat.lt_irrefl 0), (fun x hx => by cases hx), fun i h => absurd h (by simp)⟩, fun _ => trivial⟩
  | x :: l, o => by
    have ih := chain_iff (M := M) (en := en) (l := l) (o := some x)
    constructor
    · rintro ⟨h1, h2, h3⟩
      obtain ⟨i1, i2, i3⟩ := ih.1 h3
      refine ⟨fun _ => h1, fun y hy => ?_, fun i hi => ?_⟩
      · rcases List.mem_cons.1 hy with rfl | hy
        · exact h2
        · exact i2 y hy
      · cases i with
        | zero => exact i1 (by simpa using hi)
        | succ i => exact i3 i (by simpa using hi)
    · rintro ⟨h1, h2, h3⟩
      refine ⟨h1 (by simp), h2 x (by simp), ih.2 ⟨fun h => ?_, fun y hy => h2 y (List.mem_cons_of_mem _ hy), fun i hi => ?_⟩⟩
      · exact h3 0 (by simpa using h)
      · exact h3 (i + 1) (by simpa using hi)
theorem safe_ord {p : Plan} (hv : Valid p) (h : SafeC p) : Ord p := by
  have hM : 0 ≤ p.mmax := by have := hv.mmin; omega
  have key : ∀ {l : List Stage} {t : Int}, (∀ x ∈ l, OkStage x) → good p.mmax l t → chainA p.mmax l t := by
    intro l
    induction l with
    | nil => intro _ _ _; trivial
    | cons x l ih => intro t ho hg; exact ⟨hg.1, ih (fun y hy => ho y (List.mem_cons_of_mem _ hy)) hg.2.2.2⟩
  exact fun a b ha hb hab => List.pairwise_iff_getElem.1 (chain_ord hM hv.st (key hv.st h.g)).2 a b ha hb hab
/-- How much of a window's limit is left, in the slots' words. -/
def gap (p : Plan) (w : Win) : Int := (stN p w.t).s.start - ((stN p w.f).m.start + (stN p w.f).mn)
theorem margin_is {p : Plan} (hv : Valid p) (h : SafeC p) {w : Win} (hw : w ∈ p.wn) : margin p w = w.lim - gap p w := by
  have hp := win_poss hv hw
  have h0 := safe_never h hp
  have ho := safe_ord hv h
  have hE := ended (s := widest p w) hv
  obtain ⟨hS, -⟩ := ended_steps hE
  rw [never_len h hp] at hS
  have okw := hv.wn w hw
  have hwt := okw.t; have hft := okw.ft
  obtain ⟨f, hf⟩ := Int.eq_ofNat_of_zero_le okw.f
  obtain ⟨b, hb⟩ := Int.eq_ofNat_of_zero_le (show 0 ≤ w.t by omega)
  have hbl : b < p.st.length := by omega
  have hfl : f < p.st.length := by omega
  have okb := hv.st _ (List.getElem_mem hbl)
  have okf := hv.st _ (List.getElem_mem hfl)
  have hM := hv.mmin
  have hde : 0 ≤ (widest p w).det := by show 0 ≤ p.mmax; omega
  have eB : stN p w.t = p.st[b] := by rw [hb]; exact stN_at hbl
  have eF : stN p w.f = p.st[f] := by rw [hf]; exact stN_at hfl
  have eT : (widest p w).tool = p.st[b].m.tool := by rw [← eB]; rfl
  have eA : (widest p w).at_ = p.st[b].m.start := by rw [← eB]; rfl
  have hdg : ∀ k, k < p.st.length → (widest p w).dur.getD k 0 = if f = k then (stN p w.f).mn else (p.st.map (·.mx)).getD k 0 := fun k hk => by
    show ((p.st.map (·.mx)).set w.f.toNat (stN p w.f).mn).getD k 0 = _
    rw [set_getD (by rw [List.length_map]; exact hk), hf, Int.toNat_natCast]
  have dF := hdg f hfl
  rw [if_pos rfl, eF] at dF
  have dB := hdg b hbl
  rw [if_neg (by omega), mx_getD hbl] at dB
  have D1 := hS.each b hbl hbl
  have D2 := hS.each f hfl hfl
  have m1 := okf.mn; have m2 := okf.mx; have m3 := okb.mn; have m4 := okb.mx
  have h7 := ho f b hfl hbl (by omega)
  obtain ⟨-, h5⟩ := slot_some hde D1.slot
  obtain ⟨-, h6⟩ := slot_some hde D2.slot
  rw [dB, eT, eA] at h5
  rw [dF, eT, eA] at h6
  have g1 : (nth (run p (widest p w)).V b).start = p.st[b].s.start := by
    rcases h5 with ⟨-, h5⟩ | ⟨h5, -, -⟩
    · exact absurd ⟨rfl, by omega⟩ h5
    · exact congrArg Slot.start h5
  have g2 : (nth (run p (widest p w)).V f).start = p.st[f].m.start := by
    rcases h6 with ⟨h6, -⟩ | ⟨-, -, h6⟩
    · exact congrArg Slot.start h6
    · omega
  have g3 := D2.fin
  rw [dF, g2] at g3
  unfold margin gap
  rw [hf, hb] at *
  rw [eB, eF, g1, g3]

/-! ### tight plans -/
def tStart (M en : Int) (x : Stage) : Option Stage → Int
  | none => en + M
  | some b => if b.m.tool = x.m.tool then b.m.start + b.mx + M else max (b.m.start + b.mx + M) (b.s.start + b.mx + M)
def tSpare (M : Int) (x : Stage) (at_ : Int) : Option Stage → Int
  | none => at_ + x.mx - 1 + M
  | some b => if b.m.tool = x.m.tool then max (at_ + x.mx - 1 + M) (b.s.start + b.mx + M) else at_ + x.mx - 1 + M
def tStage (M en : Int) (o : Option Stage) (x : Stage) : Stage := ⟨x.mn, x.mx, ⟨x.m.tool, tStart M en x o⟩, ⟨x.s.tool, tSpare M x (tStart M en x o) o⟩⟩
def tightS (M en : Int) : Option Stage → List Stage → List Stage
  | _, [] => []
  | o, x :: l => tStage M en o x :: tightS M en (some (tStage M en o x)) l
theorem tightS_len (M en : Int) : ∀ (l : List Stage) (o : Option Stage), (tightS M en o l).length = l.length
  | [], _ => rfl
  | x :: l, o => by simp [tightS, tightS_len M en l]
theorem tight_link (M en : Int) (o : Option Stage) (x : Stage) : linkO M en o (tStage M en o x) ∧ spared M (tStage M en o x) := by
  cases o with
  | none => exact ⟨Int.le_refl _, Int.le_refl _⟩
  | some b =>
    unfold spared linkO linked
    simp only [tStage, tStart, tSpare]
    by_cases h : b.m.tool = x.m.tool
    · rw [if_pos h, if_pos h]
      refine ⟨⟨by omega, fun _ => by omega, fun e => absurd h e⟩, by omega⟩
    · rw [if_neg h, if_neg h]
      refine ⟨⟨by omega, fun e => absurd e h, fun _ => by omega⟩, by omega⟩
theorem tight_chain (M en : Int) : ∀ (l : List Stage) (o : Option Stage), chainO M en o (tightS M en o l)
  | [], _ => trivial
  | x :: l, o => ⟨(tight_link M en o x).1, (tight_link M en o x).2, tight_chain M en l _⟩
/-- The stages behind the first k steps of the generator. -/
theorem tight_take (M en : Int) : ∀ (l : List Stage) (o : Option Stage) (k : Nat) (h : k < l.length), ∃ hk : k < (tightS M en o l).length, (tightS M en o l)[k] = tStage M en (if k = 0 then o else (tightS M en o l)[k - 1]?) l[k]
  | [], _, k, h => absurd h (Nat.not_lt_zero k)
  | x :: l, o, 0, h => ⟨by simp [tightS], rfl⟩
  | x :: l, o, k + 1, h => by
    obtain ⟨hk, e⟩ := tight_take M en l (some (tStage M en o x)) k (by simpa using h)
    refine ⟨by simpa [tightS] using hk, ?_⟩
    simp only [tightS, List.getElem_cons_succ]
    rw [e]
    cases k with
    | zero => simp
    | succ k => simp
def tightW (st : List Stage) (w : Win) : Win := ⟨w.f, w.t, (st.getD w.t.toNat stage0').s.start - (st.getD w.f.toNat stage0').m.start - (st.getD w.f.toNat stage0').mn + w.lim.tmod 3⟩
def tightP (p : Plan) : Plan := ⟨p.entry, p.mmin, p.mmax, tightS p.mmax p.entry none p.st, p.wn.map (tightW (tightS p.mmax p.entry none p.st))⟩
/-- The plan that integers determine. -/
def made9 (X : List (List Int)) (t : Bool) : Plan := if t = true then tightP (made X) else made X
end Go.Proofs.YtihohjgjklcnlaaDoor.Pl

namespace Go.Proofs.YtihohjgjklcnlaaDoor.Pl
theorem tStage_small {M en C : Int} (hM : 0 ≤ M ∧ M ≤ 11) (he : 0 ≤ en ∧ en ≤ 100) (hC : 100 ≤ C) {o : Option Stage} (ho : ∀ b, o = some b → (0 ≤ b.m.start ∧ b.m.start ≤ C) ∧ (0 ≤ b.s.start ∧ b.s.start ≤ C) ∧ 1 ≤ b.mx ∧ b.mx ≤ 31) {x : Stage} (hx : Small 1000 x) : Small (C + 84) (tStage M en o x) := by
  have a1 := hx.mn
  have h1 : 0 ≤ tStart M en x o ∧ tStart M en x o ≤ C + 42 := by
    cases o with
    | none => simp only [tStart]; omega
    | some b =>
      have := ho b rfl
      simp only [tStart]; split <;> omega
  have h2 : 0 ≤ tSpare M x (tStart M en x o) o ∧ tSpare M x (tStart M en x o) o ≤ C + 84 := by
    generalize tStart M en x o = t at *
    cases o with
    | none => simp only [tSpare]; omega
    | some b =>
      have := ho b rfl
      simp only [tSpare]; split <;> omega
  exact ⟨hx.mn, hx.ne, hx.mt, hx.st, ⟨h1.1, by show tStart M en x o ≤ C + 84; omega⟩, h2⟩
theorem tight_small {M en : Int} (hM : 0 ≤ M ∧ M ≤ 11) (he : 0 ≤ en ∧ en ≤ 100) : ∀ (l : List Stage) (o : Option Stage) (C : Int), 100 ≤ C → (∀ b, o = some b → (0 ≤ b.m.start ∧ b.m.start ≤ C) ∧ (0 ≤ b.s.start ∧ b.s.start ≤ C) ∧ 1 ≤ b.mx ∧ b.mx ≤ 31) → (∀ x ∈ l, Small 1000 x) → ∀ y ∈ tightS M en o l, Small (C + 84 * l.length) y
  | [], _, _, _, _, _, y, hy => by cases hy
  | x :: l, o, C, hC, ho, hs, y, hy => by
    have h0 := tStage_small hM he hC ho (hs x (by simp))
    rcases List.mem_cons.1 hy with rfl | hy
    · refine ⟨h0.mn, h0.ne, h0.mt, h0.st, ?_, ?_⟩
      · have := h0.ms; simp only [List.length_cons]; omega
      · have := h0.ss; simp only [List.length_cons]; omega
    · have ih := tight_small hM he l (some (tStage M en o x)) (C + 84) (by omega) (fun b hb => by
        injection hb with hb; subst hb
        exact ⟨h0.ms, h0.ss, by have := h0.mn; omega, h0.mn.2.2⟩) (fun z hz => hs z (List.mem_cons_of_mem _ hz)) y hy
      refine ⟨ih.mn, ih.ne, ih.mt, ih.st, ?_, ?_⟩
      · have := ih.ms; simp only [List.length_cons]; omega
      · have := ih.ss; simp only [List.length_cons]; omega
theorem before_tight (st : List Stage) (a b : Win) : before (tightW st a) (tightW st b) = before a b := rfl
theorem asc_of {n : Nat} : ∀ {l : List Win} {v : Option Win}, okWinsFrom n v l = true → Asc l ∧ ∀ u, v = some u → ∀ w ∈ l, before u w = true
  | [], _, _ => ⟨List.Pairwise.nil, fun _ _ w hw => by cases hw⟩
  | x :: l, v, h => by
    have tr : ∀ {a b c : Win}, before a b = true → before b c = true → before a c = true := by
      intro a b c h1 h2
      simp only [before, Bool.or_eq_true, Bool.and_eq_true, decide_eq_true_eq] at *
      omega
    cases v with
    | none =>
      simp only [okWinsFrom, Bool.and_eq_true] at h
      obtain ⟨i1, i2⟩ := asc_of h.2
      exact ⟨List.pairwise_cons.2 ⟨fun w hw => i2 x rfl w hw, i1⟩, fun u hu => by cases hu⟩
    | some u =>
      simp only [okWinsFrom, Bool.and_eq_true] at h
      obtain ⟨i1, i2⟩ := asc_of h.2
      refine ⟨List.pairwise_cons.2 ⟨fun w hw => i2 x rfl w hw, i1⟩, fun u' hu w hw => ?_⟩
      injection hu with hu; subst hu
      rcases List.mem_cons.1 hw with rfl | hw
      · exact h.1.2
      · exact tr h.1.2 (i2 x rfl w hw)
theorem made_bounds (X : List (List Int)) : (0 ≤ (made X).mmax ∧ (made X).mmax ≤ 11) ∧ 0 ≤ (made X).entry ∧ (made X).entry ≤ 100 := by
  have h := mkMax_bd X
  exact ⟨⟨by show 0 ≤ mkMax X; omega, h.2.2.1⟩, h.2.2.2.1, h.2.2.2.2⟩
theorem tight_fine (X : List (List Int)) : Fine (tightP (made X)) := by
  have hf := made_fine X
  obtain ⟨hM, he⟩ := made_bounds X
  have hlen : (tightP (made X)).st.length = (made X).st.length := tightS_len _ _ _ _
  have hS : ∀ x ∈ (tightP (made X)).st, Small 1000 x := fun x hx => by
    have h := tight_small hM he (made X).st none 100 (Int.le_refl _) (fun b hb => by cases hb) hf.s x hx
    have := hf.n
    refine ⟨h.mn, h.ne, h.mt, h.st, ?_, ?_⟩
    · have := h.ms; omega
    · have := h.ss; omega
  have hCh : chainO (made X).mmax (made X).entry none (tightP (made X)).st := tight_chain _ _ _ _
  have hO : ∀ x ∈ (tightP (made X)).st, OkStage x := fun x hx => small_ok (hS x hx)
  have hA : chainA (made X).mmax (tightP (made X)).st (made X).entry := by
    have key : ∀ {l : List Stage} {t : Int}, good (made X).mmax l t → chainA (made X).mmax l t := by
      intro l
      induction l with
      | nil => intro _ _; trivial
      | cons x l ih => intro t hg; exact ⟨hg.1, ih hg.2.2.2⟩
    exact key ((good_iff hM.1 hO).2 hCh)
  have hOr : Ord (tightP (made X)) := fun a b ha hb hab => List.pairwise_iff_getElem.1 (chain_ord hM.1 hO hA).2 a b ha hb hab
  have hw : ∀ w ∈ (tightP (made X)).wn, OkWin (tightP (made X)).st.length w := fun w hw => by
    obtain ⟨u, hu, rfl⟩ := List.mem_map.1 hw
    have ok := hf.v.wn u hu
    have h1 := ok.f; have h2 := ok.ft; have h3 := ok.t; have h4 := ok.l
    obtain ⟨f, hf'⟩ := Int.eq_ofNat_of_zero_le h1
    obtain ⟨b, hb'⟩ := Int.eq_ofNat_of_zero_le (show 0 ≤ u.t by omega)
    have hbl : b < (tightP (made X)).st.length := by omega
    have hfl : f < (tightP (made X)).st.length := by omega
    have sB := hS _ (List.getElem_mem hbl)
    have sF := hS _ (List.getElem_mem hfl)
    have hsp := (chain_iff.1 hCh).2.1 _ (List.getElem_mem hbl)
    unfold spared at hsp
    have ho := hOr f b hfl hbl (by omega)
    have b1 := sB.mn; have b2 := sB.ss; have f1 := sF.mn; have f2 := sF.ms; have b3 := sB.ms
    have hmod : 0 ≤ u.lim.tmod 3 ∧ u.lim.tmod 3 < 3 := ⟨Int.tmod_nonneg _ h4.1, Int.tmod_lt_of_pos _ (by omega)⟩
    have eB : (tightP (made X)).st.getD b stage0' = (tightP (made X)).st[b] := by rw [List.getD_eq_getElem?_getD, List.getElem?_eq_getElem hbl]; rfl
    have eF : (tightP (made X)).st.getD f stage0' = (tightP (made X)).st[f] := by rw [List.getD_eq_getElem?_getD, List.getElem?_eq_getElem hfl]; rfl
    refine ⟨h1, h2, by rw [hlen]; exact h3, ?_⟩
    show 0 ≤ ((tightP (made X)).st.getD u.t.toNat stage0').s.start - ((tightP (made X)).st.getD u.f.toNat stage0').m.start - ((tightP (made X)).st.getD u.f.toNat stage0').mn + u.lim.tmod 3 ∧ ((tightP (made X)).st.getD u.t.toNat stage0').s.start - ((tightP (made X)).st.getD u.f.toNat stage0').m.start - ((tightP (made X)).st.getD u.f.toNat stage0').mn + u.lim.tmod 3 ≤ 1000000
    rw [hf', hb', Int.toNat_natCast, Int.toNat_natCast, eB, eF]
    omega
  refine ⟨⟨hf.v.entry, hf.v.mmin, hf.v.mmax, by rw [hlen]; exact hf.v.len, hO, by show (List.map _ _).length ≤ 20; rw [List.length_map]; exact hf.v.wlen, hw, okFrom_asc ?_ hw (fun u hu => by cases hu)⟩, hS, by rw [hlen]; exact hf.n, hf.m⟩
  show Asc (List.map _ _)
  unfold Asc
  rw [List.pairwise_map]
  exact (asc_of hf.v.asc).1
theorem made9_fine (X : List (List Int)) (t : Bool) : Fine (made9 X t) := by
  unfold made9
  split
  · exact tight_fine X
  · exact made_fine X
end Go.Proofs.YtihohjgjklcnlaaDoor.Pl
