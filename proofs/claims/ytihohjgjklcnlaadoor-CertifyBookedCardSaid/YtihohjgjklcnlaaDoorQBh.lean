/-
  Certificates on paper: the critical scenarios; a plan is late in none of them exactly if its slots follow one another and its windows are wide enough; and then it is late in no possible scenario.
  Certificates on paper: where no critical scenario makes a plan late, the condition holds; what Check answers.
-/
import Derived.Test.YtihohjgjklcnlaaDoorQBb
namespace Go.Proofs.YtihohjgjklcnlaaDoor.Pl

def slowest (p : Plan) : Scen := ⟨p.st.map (·.mx), p.st.map (fun _ => p.mmax), p.mmax, -1, 0⟩
def lost (p : Plan) (x : Stage) : Scen := ⟨p.st.map (·.mx), p.st.map (fun _ => p.mmax), p.mmax, x.m.tool, x.m.start + x.mx - 1⟩
def stage0' : Stage := ⟨0, 0, ⟨0, 0⟩, ⟨0, 0⟩⟩
def stN (p : Plan) (i : Int) : Stage := p.st.getD i.toNat stage0'
def widest (p : Plan) (w : Win) : Scen := ⟨(p.st.map (·.mx)).set w.f.toNat (stN p w.f).mn, p.st.map (fun _ => p.mmax), p.mmax, (stN p w.t).m.tool, (stN p w.t).m.start⟩
def criticals (p : Plan) : List Scen := slowest p :: (p.st.map (lost p) ++ p.wn.map (widest p))
def isLate (p : Plan) (s : Scen) : Bool := decide ((run p s).kind ≠ 0)
def scen0 : Scen := ⟨[], [], 0, 0, 0⟩
/-- What Check answers. -/
def checkR (p : Plan) : Scen × Bool := if valid p = true then (match (criticals p).find? (isLate p) with | some s => (s, false) | none => (scen0, true)) else (scen0, false)

/-! ### the condition -/
def after (M T : Int) : List Stage → Int → Prop
  | [], _ => True
  | x :: l, t => (x.m.tool = T → t + M ≤ x.s.start ∧ after M T l (x.s.start + x.mx)) ∧ (x.m.tool ≠ T → t + M ≤ x.m.start ∧ after M T l (x.m.start + x.mx))
def good (M : Int) : List Stage → Int → Prop
  | [], _ => True
  | x :: l, t => t + M ≤ x.m.start ∧ x.m.start + x.mx - 1 + M ≤ x.s.start ∧ after M x.m.tool l (x.s.start + x.mx) ∧ good M l (x.m.start + x.mx)
def wide (p : Plan) : Prop := ∀ w ∈ p.wn, (stN p w.t).s.start - ((stN p w.f).m.start + (stN p w.f).mn) ≤ w.lim
structure SafeC (p : Plan) : Prop where
  g : good p.mmax p.st p.entry
  w : wide p

theorem good_le {M : Int} (hM : 0 ≤ M) : ∀ {l : List Stage} {t : Int}, (∀ x ∈ l, OkStage x) → good M l t → ∀ x ∈ l, t + M ≤ x.m.start
  | [], _, _, _, x, hx => by cases hx
  | y :: l, t, ho, h, x, hx => by
    rcases List.mem_cons.1 hx with rfl | hx
    · exact h.1
    · have := good_le hM (fun x hx => ho x (List.mem_cons_of_mem _ hx)) h.2.2.2 x hx
      have h1 := h.1
      have oy := ho y (by simp)
      have := oy.mn; have := oy.mx
      omega
theorem good_sp {M : Int} (hM : 0 ≤ M) : ∀ {l : List Stage} {t : Int}, (∀ x ∈ l, OkStage x) → good M l t → ∀ x ∈ l, x.m.start ≤ x.s.start
  | [], _, _, _, x, hx => by cases hx
  | y :: l, t, ho, h, x, hx => by
    rcases List.mem_cons.1 hx with rfl | hx
    · have h1 := h.2.1
      have oy := ho x (by simp)
      have := oy.mn; have := oy.mx
      omega
    · exact good_sp hM (fun x hx => ho x (List.mem_cons_of_mem _ hx)) h.2.2.2 x hx
theorem after_mono {M T : Int} : ∀ {l : List Stage} {t t' : Int}, t' ≤ t → after M T l t → after M T l t'
  | [], _, _, _, _ => trivial
  | x :: l, t, t', h, ha => ⟨fun e => ⟨by have := (ha.1 e).1; omega, (ha.1 e).2⟩, fun e => ⟨by have := (ha.2 e).1; omega, (ha.2 e).2⟩⟩
theorem good_mono {M : Int} {l : List Stage} {t t' : Int} (h : t' ≤ t) (hg : good M l t) : good M l t' := by
  cases l with
  | nil => trivial
  | cons x l => exact ⟨by have := hg.1; omega, hg.2⟩

/-! ### soundness -/
theorem firstMiss_no {V : List Visit} {i : Nat} : ∀ {l : List Win} {k : Nat}, (∀ w ∈ l, w.t = (i : Int) → missed V w = false) → firstMiss V i l k = none
  | [], _, _ => rfl
  | x :: l, k, h => by
    unfold firstMiss
    rw [if_neg]
    · exact firstMiss_no (fun w hw => h w (List.mem_cons_of_mem _ hw))
    · rintro ⟨h1, h2⟩
      rw [h x (by simp) h1] at h2
      cases h2
theorem stN_at {p : Plan} {k : Nat} (h : k < p.st.length) : stN p (k : Int) = p.st[k] := by
  unfold stN; rw [Int.toNat_natCast, List.getD_eq_getElem?_getD, List.getElem?_eq_getElem h]; rfl
/-- What the visits so far have been. -/
structure VOk (p : Plan) (V : List Visit) (i : Nat) : Prop where
  len : V.length = i
  fin : ∀ f (h : f < p.st.length), f < i → p.st[f].m.start + p.st[f].mn ≤ (nth V f).fin
theorem VOk.snoc {p : Plan} {V : List Visit} {i : Nat} (h : VOk p V i) {v : Visit} (hv : ∀ (hi : i < p.st.length), p.st[i].m.start + p.st[i].mn ≤ v.fin) : VOk p (V ++ [v]) (i + 1) := by
  refine ⟨by simp [h.len], fun f hf hfi => ?_⟩
  by_cases e : f = i
  · subst e
    have := nth_last V v
    rw [h.len] at this
    rw [this]; exact hv hf
  · rw [nth_app (by rw [h.len]; omega)]
    exact h.fin f hf (by omega)
/-- No window is missed by a visit that starts at its spare slot at the latest. -/
theorem no_miss {p : Plan} (hv : Valid p) (hw : wide p) {V : List Visit} {i : Nat} (h : VOk p V i) (hi : i < p.st.length) {v : Visit} (hs : v.start ≤ p.st[i].s.start) : firstMiss (V ++ [v]) i p.wn 0 = none := by
  refine firstMiss_no fun w hwm ht => ?_
  have ok := hv.wn w hwm
  have hwd := hw w hwm
  obtain ⟨f, hf⟩ := Int.eq_ofNat_of_zero_le ok.f
  have hft := ok.ft
  have hfi : f < i := by omega
  rw [hf, ht, stN_at hi, stN_at (show f < p.st.length by omega)] at hwd
  unfold missed
  rw [hf, ht, nth_app (k := f) (by rw [h.len]; exact hfi)]
  have e := nth_last V v
  rw [h.len] at e
  rw [e]
  have := h.fin f (by omega) hfi
  rw [decide_eq_false_iff_not]
  omega
theorem slot_spare {x : Stage} {s : Scen} {t m d : Int} (h1 : s.tool = x.m.tool) (h2 : s.at_ < x.m.start + d) (h3 : s.at_ ≤ t) (h4 : t + m ≤ x.s.start) : slot x s t m d = some x.s := by
  unfold slot loses
  rw [decide_eq_true h1, decide_eq_true h2, if_pos (by rfl), if_pos h3, if_pos h4]
theorem slot_main {x : Stage} {s : Scen} {t m d : Int} (h1 : ¬ (s.tool = x.m.tool ∧ s.at_ < x.m.start + d)) (h4 : t + m ≤ x.m.start) : slot x s t m d = some x.m := by
  unfold slot loses
  rw [if_neg (by simpa using h1), if_pos h4]
theorem drop_cons {α : Type} {l : List α} {i : Nat} {x : α} {m : List α} (h : x :: m = l.drop i) : ∃ hi : i < l.length, l[i] = x ∧ m = l.drop (i + 1) := by
  have hi : i < l.length := by
    have := congrArg List.length h
    rw [List.length_drop] at this; simp at this; omega
  rw [List.drop_eq_getElem_cons hi] at h
  obtain ⟨h1, h2⟩ := List.cons.inj h
  exact ⟨hi, h1.symm, h2⟩
theorem run_after {p : Plan} {s : Scen} (hp : Poss p s) (hw : wide p) (hsp : ∀ x ∈ p.st, x.m.start ≤ x.s.start) : ∀ (l : List Stage) (i : Nat) (t t0 : Int) (V : List Visit), l = p.st.drop i → VOk p V i → after p.mmax s.tool l t0 → t ≤ t0 → s.at_ ≤ t → (∀ x ∈ l, s.at_ < x.m.start) → (runFrom p.wn s l i t V).kind = 0
  | [], _, _, _, _, _, _, _, _, _, _ => rfl
  | x :: l, i, t, t0, V, hl, hV, ha, ht, hat, hx => by
    obtain ⟨hi, e, hl'⟩ := drop_cons hl
    have hd := hp.dur i hi
    have hm := hp.mv i hi
    have ok := hp.v.st _ (List.getElem_mem hi)
    have hs := hsp _ (List.getElem_mem hi)
    rw [e] at hd ok hs
    have h0 := hp.v.mmin
    have hax := hx x (by simp)
    have := ok.mn
    unfold runFrom
    by_cases hT : x.m.tool = s.tool
    · obtain ⟨h1, h2⟩ := ha.1 hT
      rw [slot_spare hT.symm (by omega) hat (by omega)]
      simp only
      rw [no_miss hp.v hw hV hi (by rw [e]; exact Int.le_refl _)]
      exact run_after hp hw hsp l (i + 1) _ _ _ hl' (hV.snoc (fun _ => by rw [e]; simp only; omega)) h2 (by omega) (by omega) (fun y hy => hx y (List.mem_cons_of_mem _ hy))
    · obtain ⟨h1, h2⟩ := ha.2 hT
      rw [slot_main (fun h => hT h.1.symm) (by omega)]
      simp only
      rw [no_miss hp.v hw hV hi (by rw [e]; exact hs)]
      exact run_after hp hw hsp l (i + 1) _ _ _ hl' (hV.snoc (fun _ => by rw [e]; simp only; omega)) h2 (by omega) (by omega) (fun y hy => hx y (List.mem_cons_of_mem _ hy))
theorem run_good {p : Plan} {s : Scen} (hp : Poss p s) (hw : wide p) (hsp : ∀ x ∈ p.st, x.m.start ≤ x.s.start) : ∀ (l : List Stage) (i : Nat) (t t0 : Int) (V : List Visit), l = p.st.drop i → VOk p V i → good p.mmax l t0 → t ≤ t0 → (runFrom p.wn s l i t V).kind = 0
  | [], _, _, _, _, _, _, _, _ => rfl
  | x :: l, i, t, t0, V, hl, hV, hg, ht => by
    obtain ⟨hi, e, hl'⟩ := drop_cons hl
    have hd := hp.dur i hi
    have hm := hp.mv i hi
    have ok := hp.v.st _ (List.getElem_mem hi)
    have hs := hsp _ (List.getElem_mem hi)
    rw [e] at hd ok hs
    have h0 := hp.v.mmin
    have := ok.mn
    obtain ⟨g1, g2, g3, g4⟩ := hg
    have hdt := hp.det
    unfold runFrom
    by_cases hlo : s.tool = x.m.tool ∧ s.at_ < x.m.start + s.dur.getD i 0
    · have hslot : slot x s t (s.mv.getD i 0) (s.dur.getD i 0) = some x.s := by
        unfold slot loses
        rw [decide_eq_true hlo.1, decide_eq_true hlo.2, if_pos (by rfl)]
        have := hlo.2
        split
        · rw [if_pos (by omega)]
        · split
          · rw [if_pos (by omega)]
          · rw [if_pos (by omega)]
      rw [hslot]
      simp only
      rw [no_miss hp.v hw hV hi (by rw [e]; exact Int.le_refl _)]
      have hst : ∀ y ∈ l, OkStage y := fun y hy => hp.v.st y (by rw [hl'] at hy; exact List.mem_of_mem_drop hy)
      have hle := good_le (show 0 ≤ p.mmax by omega) hst g4
      have h2 := hlo.2
      refine run_after hp hw hsp l (i + 1) _ (x.s.start + x.mx) _ hl' (hV.snoc (fun _ => by rw [e]; simp only; omega)) (by rw [hlo.1]; exact g3) (by omega) (by omega) (fun y hy => ?_)
      have := hle y hy
      omega
    · rw [slot_main hlo (by omega)]
      simp only
      rw [no_miss hp.v hw hV hi (by rw [e]; exact hs)]
      exact run_good hp hw hsp l (i + 1) _ _ _ hl' (hV.snoc (fun _ => by rw [e]; simp only; omega)) g4 (by omega)
/-- A plan that fulfils the condition is late in no possible scenario. -/
theorem safe_never {p : Plan} (h : SafeC p) {s : Scen} (hp : Poss p s) : (run p s).kind = 0 :=
  run_good hp h.w (good_sp (by have := hp.v.mmin; omega) hp.v.st h.g) p.st 0 p.entry p.entry [] rfl ⟨rfl, fun _ _ h => absurd h (Nat.not_lt_zero _)⟩ h.g (Int.le_refl _)
end Go.Proofs.YtihohjgjklcnlaaDoor.Pl

namespace Go.Proofs.YtihohjgjklcnlaaDoor.Pl

theorem mx_getD {p : Plan} {i : Nat} (h : i < p.st.length) : (p.st.map (·.mx)).getD i 0 = p.st[i].mx := by
  rw [List.getD_eq_getElem?_getD, List.getElem?_map, List.getElem?_eq_getElem h]; rfl
theorem mm_getD {p : Plan} {i : Nat} (h : i < p.st.length) : (p.st.map (fun _ => p.mmax)).getD i 0 = p.mmax := by
  rw [List.getD_eq_getElem?_getD, List.getElem?_map, List.getElem?_eq_getElem h]; rfl
theorem set_getD {l : List Int} {i k : Nat} {x : Int} (h : i < l.length) : (l.set k x).getD i 0 = if k = i then x else l.getD i 0 := by
  by_cases e : k = i
  · subst e
    rw [if_pos rfl, List.getD_eq_getElem?_getD, List.getElem?_set_self h]; rfl
  · rw [if_neg e, List.getD_eq_getElem?_getD, List.getElem?_set_ne e, ← List.getD_eq_getElem?_getD]
theorem unroll {wn : List Win} {s : Scen} {x : Stage} {l : List Stage} {i : Nat} {t : Int} {V : List Visit} (h : (runFrom wn s (x :: l) i t V).kind = 0) :
    ∃ o, slot x s t (s.mv.getD i 0) (s.dur.getD i 0) = some o ∧ firstMiss (V ++ [⟨i, o.tool, o.start, o.start + s.dur.getD i 0⟩]) i wn 0 = none ∧ (runFrom wn s l (i + 1) (o.start + s.dur.getD i 0) (V ++ [⟨i, o.tool, o.start, o.start + s.dur.getD i 0⟩])).kind = 0 := by
  unfold runFrom at h
  cases hs : slot x s t (s.mv.getD i 0) (s.dur.getD i 0) with
  | none => rw [hs] at h; simp at h
  | some o =>
    rw [hs] at h
    simp only at h
    cases hf : firstMiss (V ++ [⟨i, o.tool, o.start, o.start + s.dur.getD i 0⟩]) i wn 0 with
    | some k => rw [hf] at h; simp at h
    | none => rw [hf] at h; exact ⟨o, rfl, hf, h⟩
def chainA (M : Int) : List Stage → Int → Prop
  | [], _ => True
  | x :: l, t => t + M ≤ x.m.start ∧ chainA M l (x.m.start + x.mx)
theorem chain_slow {p : Plan} (hv : Valid p) : ∀ (l : List Stage) (i : Nat) (t : Int) (V : List Visit), l = p.st.drop i → (runFrom p.wn (slowest p) l i t V).kind = 0 → chainA p.mmax l t
  | [], _, _, _, _, _ => trivial
  | x :: l, i, t, V, hl, h => by
    obtain ⟨hi, e, hl'⟩ := drop_cons hl
    obtain ⟨o, h1, -, h3⟩ := unroll h
    have ok := hv.st _ (List.getElem_mem hi)
    rw [e] at ok
    have hm : (slowest p).mv.getD i 0 = p.mmax := mm_getD hi
    have hd : (slowest p).dur.getD i 0 = x.mx := by rw [← e]; exact mx_getD hi
    rw [hm, hd] at h1
    rw [hd] at h3
    have h0 := hv.mmin
    obtain ⟨h4, h5⟩ := slot_some (show 0 ≤ (slowest p).det by show 0 ≤ p.mmax; omega) h1
    rcases h5 with ⟨rfl, -⟩ | ⟨-, h5, -⟩
    · exact ⟨h4, chain_slow hv l (i + 1) _ _ hl' h3⟩
    · have := ok.mt
      have : (-1 : Int) = x.m.tool := h5
      omega
theorem chain_ord {M : Int} (hM : 0 ≤ M) : ∀ {l : List Stage} {t : Int}, (∀ x ∈ l, OkStage x) → chainA M l t → (∀ x ∈ l, t ≤ x.m.start) ∧ l.Pairwise (fun x y => x.m.start + x.mx ≤ y.m.start)
  | [], _, _, _ => ⟨(fun x hx => by cases hx), List.Pairwise.nil⟩
  | x :: l, t, ho, h => by
    obtain ⟨h1, h2⟩ := chain_ord hM (fun y hy => ho y (List.mem_cons_of_mem _ hy)) h.2
    have hx := h.1
    have ok := ho x (by simp)
    have := ok.mn; have := ok.mx
    refine ⟨fun y hy => ?_, List.pairwise_cons.2 ⟨fun y hy => h1 y hy, h2⟩⟩
    rcases List.mem_cons.1 hy with rfl | hy
    · omega
    · have := h1 y hy; omega
abbrev Ord (p : Plan) : Prop := ∀ a b (ha : a < p.st.length) (hb : b < p.st.length), a < b → p.st[a].m.start + p.st[a].mx ≤ p.st[b].m.start
theorem after_of {p : Plan} (hv : Valid p) {s : Scen} (hdu : s.dur = p.st.map (·.mx)) (hmv : s.mv = p.st.map (fun _ => p.mmax)) (hde : 0 ≤ s.det) : ∀ (l : List Stage) (i : Nat) (t : Int) (V : List Visit), l = p.st.drop i → s.at_ ≤ t → (∀ x ∈ l, s.at_ < x.m.start + x.mx) → (runFrom p.wn s l i t V).kind = 0 → after p.mmax s.tool l t
  | [], _, _, _, _, _, _, _ => trivial
  | x :: l, i, t, V, hl, hat, hx, h => by
    obtain ⟨hi, e, hl'⟩ := drop_cons hl
    obtain ⟨o, h1, -, h3⟩ := unroll h
    have ok := hv.st _ (List.getElem_mem hi)
    rw [e] at ok
    have hm : s.mv.getD i 0 = p.mmax := by rw [hmv]; exact mm_getD hi
    have hd : s.dur.getD i 0 = x.mx := by rw [hdu, ← e]; exact mx_getD hi
    rw [hm, hd] at h1
    rw [hd] at h3
    have h0 := hv.mmin
    have := ok.mn; have := ok.mx
    have hax := hx x (by simp)
    have hxl := fun y hy => hx y (List.mem_cons_of_mem _ hy)
    obtain ⟨h4, h5⟩ := slot_some hde h1
    have ih := after_of hv hdu hmv hde l (i + 1) _ _ hl' (by omega) hxl h3
    refine ⟨fun hT => ?_, fun hT => ?_⟩
    · rcases h5 with ⟨rfl, h6⟩ | ⟨rfl, -, -⟩
      · exact absurd ⟨hT.symm, hax⟩ h6
      · exact ⟨h4, ih⟩
    · rcases h5 with ⟨rfl, h6⟩ | ⟨-, h6, -⟩
      · exact ⟨h4, ih⟩
      · exact absurd h6.symm hT
theorem lost_head {p : Plan} (hv : Valid p) (ho : Ord p) {j : Nat} (hj : j < p.st.length) {s : Scen} (hdu : s.dur = p.st.map (·.mx)) (hmv : s.mv = p.st.map (fun _ => p.mmax)) (eD : s.det = p.mmax) (eT : s.tool = p.st[j].m.tool) (eA : s.at_ = p.st[j].m.start + p.st[j].mx - 1) : ∀ (l : List Stage) (i : Nat) (t : Int) (V : List Visit), l = p.st.drop i → i ≤ j → (runFrom p.wn s l i t V).kind = 0 →
    p.st[j].m.start + p.st[j].mx - 1 + p.mmax ≤ p.st[j].s.start ∧ after p.mmax p.st[j].m.tool (p.st.drop (j + 1)) (p.st[j].s.start + p.st[j].mx)
  | [], i, t, V, hl, hij, _ => by
    have := congrArg List.length hl
    rw [List.length_drop] at this; simp at this; omega
  | x :: l, i, t, V, hl, hij, h => by
    obtain ⟨hi, e, hl'⟩ := drop_cons hl
    obtain ⟨o, h1, -, h3⟩ := unroll h
    have ok := hv.st _ (List.getElem_mem hi)
    rw [e] at ok
    have okj := hv.st _ (List.getElem_mem hj)
    have hm : s.mv.getD i 0 = p.mmax := by rw [hmv]; exact mm_getD hi
    have hd : s.dur.getD i 0 = x.mx := by rw [hdu, ← e]; exact mx_getD hi
    rw [hm, hd] at h1
    rw [hd] at h3
    have h0 := hv.mmin
    have := ok.mn; have := ok.mx; have := okj.mn; have := okj.mx
    have hde : 0 ≤ s.det := by omega
    by_cases hij' : i = j
    · subst hij'
      rw [e] at eT eA ⊢
      obtain ⟨h4, h5⟩ := slot_some hde h1
      rcases h5 with ⟨-, h6⟩ | ⟨rfl, -, -⟩
      · exact absurd ⟨eT, by omega⟩ h6
      · have hB : x.m.start + x.mx - 1 + p.mmax ≤ x.s.start := by
          unfold slot loses at h1
          rw [decide_eq_true eT, decide_eq_true (show s.at_ < x.m.start + x.mx by omega), if_pos (by rfl)] at h1
          split at h1
          · omega
          · split at h1
            · omega
            · split at h1
              · rename_i hh; omega
              · cases h1
        refine ⟨hB, ?_⟩
        rw [hl'] at h3
        have := after_of hv (s := s) hdu hmv hde (p.st.drop (i + 1)) (i + 1) _ _ rfl (by omega) (fun y hy => ?_) h3
        · rwa [eT] at this
        · obtain ⟨k, hk, rfl⟩ := List.mem_iff_getElem.1 hy
          rw [List.length_drop] at hk
          rw [List.getElem_drop]
          have h7 := ho i (i + 1 + k) hi (by omega) (by omega)
          rw [e] at h7
          have oky := hv.st _ (List.getElem_mem (show i + 1 + k < p.st.length by omega))
          have := oky.mn; have := oky.mx
          omega
    · obtain ⟨h4, h5⟩ := slot_some hde h1
      have h7 := ho i j hi hj (by omega)
      rw [e] at h7
      rcases h5 with ⟨rfl, -⟩ | ⟨-, -, h6⟩
      · exact lost_head hv ho hj hdu hmv eD eT eA l (i + 1) _ _ hl' (by omega) h3
      · omega
theorem good_of {p : Plan} (h : ∀ j (hj : j < p.st.length), p.st[j].m.start + p.st[j].mx - 1 + p.mmax ≤ p.st[j].s.start ∧ after p.mmax p.st[j].m.tool (p.st.drop (j + 1)) (p.st[j].s.start + p.st[j].mx)) : ∀ (l : List Stage) (i : Nat) (t : Int), l = p.st.drop i → chainA p.mmax l t → good p.mmax l t
  | [], _, _, _, _ => trivial
  | x :: l, i, t, hl, hc => by
    obtain ⟨hi, e, hl'⟩ := drop_cons hl
    have := h i hi
    rw [e, ← hl'] at this
    exact ⟨hc.1, this.1, this.2, good_of h l (i + 1) _ hl' hc.2⟩
theorem wide_of {p : Plan} (hv : Valid p) (ho : Ord p) {w : Win} (hw : w ∈ p.wn) {f b : Nat} (hf : w.f = f) (hb : w.t = b) : ∀ (l : List Stage) (i : Nat) (t : Int) (V : List Visit), l = p.st.drop i → i ≤ b → V.length = i → (∀ k, k < i → (nth V k).fin = (p.st.getD k stage0').m.start + (widest p w).dur.getD k 0) → (runFrom p.wn (widest p w) l i t V).kind = 0 →
    (stN p w.t).s.start - ((stN p w.f).m.start + (stN p w.f).mn) ≤ w.lim
  | [], i, t, V, hl, hij, _, _, _ => by
    have ok := hv.wn w hw
    have := ok.t
    have := congrArg List.length hl
    rw [List.length_drop] at this; simp at this; omega
  | x :: l, i, t, V, hl, hij, hV, hF, h => by
    obtain ⟨hi, e, hl'⟩ := drop_cons hl
    obtain ⟨o, h1, h2, h3⟩ := unroll h
    have okw := hv.wn w hw
    have hwt := okw.t; have hft := okw.ft
    have hbl : b < p.st.length := by omega
    have hfl : f < p.st.length := by omega
    have ok := hv.st _ (List.getElem_mem hi)
    rw [e] at ok
    have okb := hv.st _ (List.getElem_mem hbl)
    have okf := hv.st _ (List.getElem_mem hfl)
    have h0 := hv.mmin
    have hde : 0 ≤ (widest p w).det := by show 0 ≤ p.mmax; omega
    have eB : stN p w.t = p.st[b] := by rw [hb]; exact stN_at hbl
    have eF : stN p w.f = p.st[f] := by rw [hf]; exact stN_at hfl
    have eT : (widest p w).tool = p.st[b].m.tool := by rw [← eB]; rfl
    have eA : (widest p w).at_ = p.st[b].m.start := by rw [← eB]; rfl
    have hdg : ∀ k, k < p.st.length → (widest p w).dur.getD k 0 = if f = k then (stN p w.f).mn else (p.st.map (·.mx)).getD k 0 := fun k hk => by
      show ((p.st.map (·.mx)).set w.f.toNat (stN p w.f).mn).getD k 0 = _
      rw [set_getD (by rw [List.length_map]; exact hk), hf, Int.toNat_natCast]
    have hdi : x.mn ≤ (widest p w).dur.getD i 0 ∧ (widest p w).dur.getD i 0 ≤ x.mx := by
      rw [hdg i hi]
      have := ok.mx
      split
      · rename_i ef; subst ef; rw [eF, e]; omega
      · rw [mx_getD hi, e]; omega
    have := ok.mn; have := okb.mn; have := okb.mx
    obtain ⟨h4, h5⟩ := slot_some hde h1
    by_cases hib : i = b
    · subst hib
      rw [e] at eT eA
      rcases h5 with ⟨-, h6⟩ | ⟨rfl, -, -⟩
      · exact absurd ⟨eT, by omega⟩ h6
      · have hm := firstMiss_none h2 w hw hb
        unfold missed at hm
        have hm := of_decide_eq_false hm
        have hfi : f < i := by omega
        rw [hb, hf, nth_app (k := f) (by rw [hV]; exact hfi)] at hm
        have el := nth_last V ⟨(i : Int), x.s.tool, x.s.start, x.s.start + (widest p w).dur.getD i 0⟩
        rw [hV] at el
        rw [el, hF f hfi, hdg f hfl, if_pos rfl] at hm
        have eg : p.st.getD f stage0' = p.st[f] := by rw [List.getD_eq_getElem?_getD, List.getElem?_eq_getElem hfl]; rfl
        rw [eg, eF] at hm
        rw [eB, eF, e]
        simp only at hm
        omega
    · have h7 := ho i b hi hbl (by omega)
      rw [e] at h7
      rcases h5 with ⟨rfl, -⟩ | ⟨-, -, h6⟩
      · refine wide_of hv ho hw hf hb l (i + 1) _ _ hl' (by omega) (by simp [hV]) (fun k hk => ?_) h3
        by_cases ek : k = i
        · subst ek
          have el := nth_last V ⟨(k : Int), x.m.tool, x.m.start, x.m.start + (widest p w).dur.getD k 0⟩
          rw [hV] at el
          have eg : p.st.getD k stage0' = x := by rw [List.getD_eq_getElem?_getD, List.getElem?_eq_getElem hi, e]; rfl
          rw [el, eg]
        · rw [nth_app (by omega)]
          exact hF k (by omega)
      · omega
theorem crit_poss {p : Plan} (hv : Valid p) : ∀ s ∈ criticals p, Poss p s := by
  intro s hs
  have h0 := hv.mmin
  rcases List.mem_cons.1 hs with rfl | hs
  · refine ⟨hv, List.length_map .., fun i hi => ?_, List.length_map .., fun i hi => ?_, ⟨h0.2, Int.le_refl _⟩, .inl ⟨rfl, rfl⟩⟩
    · show _ ≤ (p.st.map _).getD i 0 ∧ (p.st.map _).getD i 0 ≤ _
      rw [mx_getD hi]; exact ⟨(hv.st _ (List.getElem_mem hi)).mx, Int.le_refl _⟩
    · show _ ≤ (p.st.map _).getD i 0 ∧ (p.st.map _).getD i 0 ≤ _
      rw [mm_getD hi]; exact ⟨h0.2, Int.le_refl _⟩
  rcases List.mem_append.1 hs with hs | hs
  · obtain ⟨x, hx, rfl⟩ := List.mem_map.1 hs
    have ok := hv.st x hx
    refine ⟨hv, List.length_map .., fun i hi => ?_, List.length_map .., fun i hi => ?_, ⟨h0.2, Int.le_refl _⟩, .inr ⟨ok.mt, ?_⟩⟩
    · show _ ≤ (p.st.map _).getD i 0 ∧ (p.st.map _).getD i 0 ≤ _
      rw [mx_getD hi]; exact ⟨(hv.st _ (List.getElem_mem hi)).mx, Int.le_refl _⟩
    · show _ ≤ (p.st.map _).getD i 0 ∧ (p.st.map _).getD i 0 ≤ _
      rw [mm_getD hi]; exact ⟨h0.2, Int.le_refl _⟩
    · show 0 ≤ x.m.start + x.mx - 1 ∧ x.m.start + x.mx - 1 ≤ 1000000
      have := ok.mn; have := ok.mx; have := ok.ms
      omega
  · obtain ⟨w, hw, rfl⟩ := List.mem_map.1 hs
    have okw := hv.wn w hw
    obtain ⟨f, hf⟩ := Int.eq_ofNat_of_zero_le okw.f
    have hft := okw.ft; have hwt := okw.t
    obtain ⟨b, hb⟩ := Int.eq_ofNat_of_zero_le (show 0 ≤ w.t by omega)
    have hbl : b < p.st.length := by omega
    have hfl : f < p.st.length := by omega
    have eB : stN p w.t = p.st[b] := by rw [hb]; exact stN_at hbl
    have eF : stN p w.f = p.st[f] := by rw [hf]; exact stN_at hfl
    have ok := hv.st _ (List.getElem_mem hbl)
    have okf := hv.st _ (List.getElem_mem hfl)
    refine ⟨hv, by show (List.set _ _ _).length = _; rw [List.length_set, List.length_map], fun i hi => ?_, List.length_map .., fun i hi => ?_, ⟨h0.2, Int.le_refl _⟩, .inr ⟨?_, ?_⟩⟩
    · show _ ≤ (List.set _ _ _).getD i 0 ∧ (List.set _ _ _).getD i 0 ≤ _
      rw [set_getD (by rw [List.length_map]; exact hi), hf, Int.toNat_natCast]
      have oki := hv.st _ (List.getElem_mem hi)
      split
      · rename_i ef; subst ef; rw [← hf, eF]; exact ⟨Int.le_refl _, okf.mx⟩
      · rw [mx_getD hi]; exact ⟨oki.mx, Int.le_refl _⟩
    · show _ ≤ (p.st.map _).getD i 0 ∧ (p.st.map _).getD i 0 ≤ _
      rw [mm_getD hi]; exact ⟨h0.2, Int.le_refl _⟩
    · show 0 ≤ (stN p w.t).m.tool ∧ (stN p w.t).m.tool ≤ 59; rw [eB]; exact ok.mt
    · show 0 ≤ (stN p w.t).m.start ∧ (stN p w.t).m.start ≤ 1000000; rw [eB]; have := ok.ms; have := ok.mx; have := ok.mn
      omega
theorem safe_iff {p : Plan} (hv : Valid p) : (∀ s ∈ criticals p, (run p s).kind = 0) ↔ SafeC p := by
  constructor
  · intro h
    have hM : 0 ≤ p.mmax := by have := hv.mmin; omega
    have hA := chain_slow hv p.st 0 p.entry [] rfl (h _ (by simp [criticals]))
    have ho : Ord p := fun a b ha hb hab => List.pairwise_iff_getElem.1 (chain_ord hM hv.st hA).2 a b ha hb hab
    refine ⟨good_of (fun j hj => lost_head hv ho hj (s := lost p p.st[j]) rfl rfl rfl rfl rfl p.st 0 p.entry [] rfl (Nat.zero_le _) (h _ ?_)) p.st 0 p.entry rfl hA, fun w hw => ?_⟩
    · exact List.mem_cons_of_mem _ (List.mem_append_left _ (List.mem_map_of_mem (List.getElem_mem hj)))
    · have okw := hv.wn w hw
      obtain ⟨f, hf⟩ := Int.eq_ofNat_of_zero_le okw.f
      have hft := okw.ft
      obtain ⟨b, hb⟩ := Int.eq_ofNat_of_zero_le (show 0 ≤ w.t by omega)
      exact wide_of hv ho hw hf hb p.st 0 p.entry [] rfl (Nat.zero_le _) rfl (fun k hk => absurd hk (Nat.not_lt_zero k)) (h _ (List.mem_cons_of_mem _ (List.mem_append_right _ (List.mem_map_of_mem hw))))
  · exact fun h s hs => safe_never h (crit_poss hv s hs)
/-- What Check answers for a plan that is safe, or is not. -/
theorem check_safe {p : Plan} (hv : Valid p) (h : SafeC p) : checkR p = (scen0, true) := by
  unfold checkR
  rw [if_pos (valid_iff.2 hv)]
  have : (criticals p).find? (isLate p) = none := List.find?_eq_none.2 fun s hs => by
    unfold isLate
    rw [(safe_iff hv).2 h s hs]; simp
  rw [this]
theorem check_unsafe {p : Plan} (hv : Valid p) (h : ¬ SafeC p) : ∃ s, checkR p = (s, false) ∧ Poss p s ∧ (run p s).kind ≠ 0 := by
  unfold checkR
  rw [if_pos (valid_iff.2 hv)]
  cases e : (criticals p).find? (isLate p) with
  | none =>
    exact absurd ((safe_iff hv).1 fun s hs => by
      have := List.find?_eq_none.1 e s hs
      unfold isLate at this
      simpa using this) h
  | some s => exact ⟨s, rfl, crit_poss hv s (List.mem_of_find?_eq_some e), by have := List.find?_some e; unfold isLate at this; simpa using this⟩
theorem check_not {p : Plan} (hv : ¬ Valid p) : checkR p = (scen0, false) := by
  unfold checkR; rw [if_neg (fun h => hv (valid_iff.1 h))]
end Go.Proofs.YtihohjgjklcnlaaDoor.Pl
