/-
  What holds at the end of a run; a run that is later by some minutes.
-/
import Derived.Test.YtngpkipblcihaaaPl
namespace Go.Proofs.Ytngpkipblcihaaa.Pl

theorem nth_lt {V : List Visit} {k : Nat} (h : k < V.length) : nth V (k : Int) = V[k] := by
  unfold nth; rw [Int.toNat_natCast, List.getD_eq_getElem?_getD, List.getElem?_eq_getElem h]; rfl
theorem nth_app {V U : List Visit} {k : Nat} (h : k < V.length) : nth (V ++ U) (k : Int) = nth V (k : Int) := by
  rw [nth_lt h, nth_lt (by rw [List.length_append]; omega), List.getElem_append_left h]
theorem nth_last (V : List Visit) (v : Visit) : nth (V ++ [v]) (V.length : Int) = v := by
  rw [nth_lt (by simp)]; simp
/-- When the wafers leave for stage k. -/
def leave (p : Plan) (V : List Visit) (k : Nat) : Int := if k = 0 then p.entry else (nth V ((k - 1 : Nat) : Int)).fin
/-- Stage k is processed as it should be. -/
structure Done (p : Plan) (s : Scen) (V : List Visit) (k : Nat) (x : Stage) : Prop where
  step : (nth V k).step = k
  slot : slot x s (leave p V k) (s.mv.getD k 0) (s.dur.getD k 0) = some ⟨(nth V k).tool, (nth V k).start⟩
  fin : (nth V k).fin = (nth V k).start + s.dur.getD k 0
structure Steps (p : Plan) (s : Scen) (i : Nat) (V : List Visit) : Prop where
  len : V.length = i
  each : ∀ k (h : k < p.st.length), k < i → Done p s V k p.st[k]
def Kept (p : Plan) (i : Nat) (V : List Visit) : Prop := ∀ w ∈ p.wn, w.t < i → missed V w = false
theorem firstMiss_none {V : List Visit} {i : Nat} : ∀ {l : List Win} {k : Nat}, firstMiss V i l k = none → ∀ w ∈ l, w.t = (i : Int) → missed V w = false
  | [], _, _, w, hw, _ => by cases hw
  | x :: l, k, h, w, hw, ht => by
    unfold firstMiss at h
    split at h
    · cases h
    · rename_i hn
      rcases List.mem_cons.1 hw with rfl | hw
      · cases hm : missed V w
        · rfl
        · exact absurd ⟨ht, hm⟩ hn
      · exact firstMiss_none h w hw ht
theorem firstMiss_some {V : List Visit} {i : Nat} : ∀ {l : List Win} {k m : Nat}, firstMiss V i l k = some m → ∃ j, ∃ h : j < l.length, m = k + j ∧ l[j].t = (i : Int) ∧ missed V l[j] = true ∧ ∀ q (hq : q < j), l[q].t = (i : Int) → missed V l[q] = false
  | [], _, _, h => by cases h
  | x :: l, k, m, h => by
    unfold firstMiss at h
    split at h
    · rename_i hx
      cases h
      exact ⟨0, by simp, by omega, hx.1, hx.2, fun q hq => by omega⟩
    · rename_i hn
      obtain ⟨j, hj, e, h1, h2, h3⟩ := firstMiss_some h
      refine ⟨j + 1, by simp; omega, by omega, h1, h2, fun q hq => ?_⟩
      cases q with
      | zero =>
        intro ht
        cases hm : missed V x
        · simpa using hm
        · exact absurd ⟨ht, hm⟩ hn
      | succ q => intro ht; simpa using h3 q (by omega) (by simpa using ht)
/-- How a run ends. -/
inductive Ended (p : Plan) (s : Scen) (R : Res) : Prop where
  | never : R.kind = 0 → R.num = 0 → Steps p s p.st.length R.V → Kept p p.st.length R.V → Ended p s R
  | atSlot (j : Nat) : R.kind = 1 → R.num = j → j < p.st.length → Steps p s j R.V → Kept p j R.V → Ended p s R
  | atWin (j k : Nat) (h : k < p.wn.length) : R.kind = 2 → R.num = k → j < p.st.length → Steps p s (j + 1) R.V → Kept p j R.V → p.wn[k].t = j → missed R.V p.wn[k] = true →
      (∀ q (hq : q < k), p.wn[q].t = j → missed R.V p.wn[q] = false) → Ended p s R
theorem missed_app {V U : List Visit} {w : Win} (h0 : 0 ≤ w.f) (h1 : w.f < w.t) (h2 : w.t < V.length) : missed (V ++ U) w = missed V w := by
  obtain ⟨a, ha⟩ := Int.eq_ofNat_of_zero_le h0
  obtain ⟨b, hb⟩ := Int.eq_ofNat_of_zero_le (show 0 ≤ w.t by omega)
  unfold missed
  rw [ha, hb, nth_app (by omega), nth_app (by omega)]
theorem Steps.snoc {p : Plan} {s : Scen} {i : Nat} {V : List Visit} (h : Steps p s i V) (hi : i < p.st.length) {o : Slot} (ho : slot p.st[i] s (leave p V i) (s.mv.getD i 0) (s.dur.getD i 0) = some o) :
    Steps p s (i + 1) (V ++ [⟨i, o.tool, o.start, o.start + s.dur.getD i 0⟩]) := by
  have hl := h.len
  have old : ∀ k : Nat, k < i → nth (V ++ [⟨i, o.tool, o.start, o.start + s.dur.getD i 0⟩]) (k : Int) = nth V k := fun k hk => nth_app (by omega)
  have lv : ∀ k, k ≤ i → leave p (V ++ [⟨i, o.tool, o.start, o.start + s.dur.getD i 0⟩]) k = leave p V k := fun k hk => by
    unfold leave
    split
    · rfl
    · rw [old _ (by omega)]
  refine ⟨by simp [hl], fun k hk hki => ?_⟩
  by_cases e : k = i
  · subst e
    have hn : nth (V ++ [⟨(k : Int), o.tool, o.start, o.start + s.dur.getD k 0⟩]) (k : Int) = ⟨k, o.tool, o.start, o.start + s.dur.getD k 0⟩ := by
      have := nth_last V ⟨(k : Int), o.tool, o.start, o.start + s.dur.getD k 0⟩
      rwa [hl] at this
    exact ⟨by rw [hn], by rw [hn, lv _ (Nat.le_refl _)]; exact ho, by rw [hn]⟩
  · have hd := h.each k hk (by omega)
    exact ⟨by rw [old _ (by omega)]; exact hd.step, by rw [old _ (by omega), lv _ (by omega)]; exact hd.slot, by rw [old _ (by omega)]; exact hd.fin⟩
theorem ended_from {p : Plan} {s : Scen} (hv : ∀ w ∈ p.wn, OkWin p.st.length w) : ∀ (l : List Stage) (i : Nat) (t : Int) (V : List Visit), l = p.st.drop i → i ≤ p.st.length → Steps p s i V → Kept p i V → t = leave p V i → Ended p s (runFrom p.wn s l i t V)
  | [], i, t, V, hl, hi, h1, h2, _ => by
    have e : i = p.st.length := by
      have := congrArg List.length hl
      rw [List.length_drop] at this; simp at this; omega
    subst e
    exact .never rfl rfl h1 h2
  | x :: l, i, t, V, hl, hi, h1, h2, ht => by
    have hlt : i < p.st.length := by
      have := congrArg List.length hl
      rw [List.length_drop] at this; simp at this; omega
    have hd : p.st.drop i = p.st[i] :: p.st.drop (i + 1) := List.drop_eq_getElem_cons hlt
    rw [hd] at hl
    obtain ⟨rfl, hl'⟩ := List.cons.inj hl
    unfold runFrom
    cases hs : slot p.st[i] s t (s.mv.getD i 0) (s.dur.getD i 0) with
    | none => exact .atSlot i rfl rfl hlt h1 h2
    | some o =>
      simp only
      rw [ht] at hs
      have h3 := h1.snoc hlt hs
      have h2' : Kept p i (V ++ [⟨(i : Int), o.tool, o.start, o.start + s.dur.getD i 0⟩]) := fun w hw hwt => by
        have ok := hv w hw
        rw [missed_app ok.f ok.ft (by rw [h1.len]; exact hwt)]
        exact h2 w hw hwt
      cases hf : firstMiss (V ++ [⟨(i : Int), o.tool, o.start, o.start + s.dur.getD i 0⟩]) i p.wn 0 with
      | some k =>
        obtain ⟨j, hj, e, h4, h5, h6⟩ := firstMiss_some hf
        obtain rfl : k = j := by omega
        exact .atWin i k hj rfl rfl hlt h3 h2' h4 h5 h6
      | none =>
        simp only
        refine ended_from hv l (i + 1) _ _ hl' hlt h3 (fun w hw hwt => ?_) ?_
        · by_cases hwi : w.t < i
          · exact h2' w hw hwi
          · exact firstMiss_none hf w hw (by omega)
        · unfold leave
          rw [if_neg (by omega), Nat.add_sub_cancel]
          have := nth_last V ⟨(i : Int), o.tool, o.start, o.start + s.dur.getD i 0⟩
          rw [h1.len] at this
          rw [this]
theorem ended {p : Plan} {s : Scen} (hv : Valid p) : Ended p s (run p s) :=
  ended_from hv.wn p.st 0 p.entry [] rfl (by omega) ⟨rfl, fun k _ h => absurd h (Nat.not_lt_zero k)⟩ (fun w hw h => by have := (hv.wn w hw).f; have := (hv.wn w hw).ft; omega) rfl

/-- What a stage that was processed tells. -/
theorem done_of {p : Plan} {s : Scen} (hp : Poss p s) {V : List Visit} {k : Nat} (hk : k < p.st.length) (h : Done p s V k p.st[k]) :
    leave p V k + p.mmin ≤ (nth V k).start ∧ (nth V k).fin = (nth V k).start + s.dur.getD k 0 ∧ (((nth V k).tool = p.st[k].m.tool ∧ (nth V k).start = p.st[k].m.start ∧ (s.tool = p.st[k].m.tool → (nth V k).fin ≤ s.at_)) ∨ ((nth V k).tool = p.st[k].s.tool ∧ (nth V k).start = p.st[k].s.start)) := by
  have h1 := hp.v.mmin
  have h2 := hp.mv k hk
  obtain ⟨h3, h4⟩ := slot_some (by have := hp.det; omega) h.slot
  refine ⟨by simp only at h3; omega, h.fin, ?_⟩
  have hf := h.fin
  rcases h4 with ⟨e, h4⟩ | ⟨e, h4⟩
  · left
    rw [← e] at h4 ⊢
    refine ⟨rfl, rfl, fun ht => ?_⟩
    simp only at h4 ⊢
    have : ¬ (s.at_ < (nth V k).start + s.dur.getD k 0) := fun hc => h4 ⟨ht, hc⟩
    omega
  · right
    rw [← e]
    exact ⟨rfl, rfl⟩

/-! ### later -/
def shSlot (by_ : Int) (o : Slot) : Slot := ⟨o.tool, o.start + by_⟩
def shStage (by_ : Int) (x : Stage) : Stage := ⟨x.mn, x.mx, shSlot by_ x.m, shSlot by_ x.s⟩
def shVisit (by_ : Int) (v : Visit) : Visit := ⟨v.step, v.tool, v.start + by_, v.fin + by_⟩
def shPlan (by_ : Int) (p : Plan) : Plan := ⟨p.entry + by_, p.mmin, p.mmax, p.st.map (shStage by_), p.wn⟩
theorem slot_sh {b : Int} {x : Stage} {s s' : Scen} {t m d : Int} (hx : 0 ≤ x.m.tool) (h1 : s'.tool = s.tool) (h2 : s.tool = -1 ∨ s'.at_ = s.at_ + b) (h3 : s'.det = s.det) : slot (shStage b x) s' (t + b) m d = (slot x s t m d).map (shSlot b) := by
  obtain ⟨mn, mx, ⟨mt, ms⟩, ⟨st, ss⟩⟩ := x
  simp only at hx
  show slot ⟨mn, mx, ⟨mt, ms + b⟩, ⟨st, ss + b⟩⟩ s' (t + b) m d = _
  rcases h2 with h2 | h2
  · simp only [slot, loses, Bool.and_eq_true, decide_eq_true_eq, h1, h2, h3]
    repeat' split
    all_goals first | rfl | (exfalso; omega) | (simp [shSlot]; done)
  · simp only [slot, loses, Bool.and_eq_true, decide_eq_true_eq, h1, h2, h3]
    repeat' split
    all_goals first | rfl | (exfalso; omega) | (simp [shSlot]; done)
theorem nth_sh {b : Int} {V : List Visit} {i : Int} (h0 : 0 ≤ i) (h : i < V.length) : nth (V.map (shVisit b)) i = shVisit b (nth V i) := by
  obtain ⟨k, rfl⟩ := Int.eq_ofNat_of_zero_le h0
  rw [nth_lt (V := V) (by omega), nth_lt (V := V.map (shVisit b)) (by rw [List.length_map]; omega), List.getElem_map]
theorem missed_sh {b : Int} {V : List Visit} {w : Win} (h0 : 0 ≤ w.f) (h1 : w.f < w.t) (h2 : w.t < V.length) : missed (V.map (shVisit b)) w = missed V w := by
  unfold missed
  rw [nth_sh (by omega) h2, nth_sh h0 (by omega)]
  unfold shVisit
  rw [decide_eq_decide]; simp only; omega
theorem firstMiss_sh {b : Int} {V : List Visit} {i : Nat} {n : Nat} (hi : V.length = i + 1) : ∀ (l : List Win) (k : Nat), (∀ w ∈ l, OkWin n w) → firstMiss (V.map (shVisit b)) i l k = firstMiss V i l k
  | [], _, _ => rfl
  | w :: l, k, h => by
    unfold firstMiss
    rw [firstMiss_sh hi l (k + 1) (fun w hw => h w (List.mem_cons_of_mem _ hw))]
    have ok := h w (by simp)
    by_cases ht : w.t = (i : Int)
    · rw [missed_sh ok.f ok.ft (by omega)]
    · rw [if_neg (fun h => ht h.1), if_neg (fun h => ht h.1)]
theorem run_sh {b : Int} {wn : List Win} {n : Nat} {s s' : Scen} (hw : ∀ w ∈ wn, OkWin n w) (h1 : s'.tool = s.tool) (h2 : s.tool = -1 ∨ s'.at_ = s.at_ + b) (h3 : s'.det = s.det) (h4 : s'.dur = s.dur) (h5 : s'.mv = s.mv) :
    ∀ (l : List Stage) (i : Nat) (t : Int) (V : List Visit), V.length = i → (∀ x ∈ l, 0 ≤ x.m.tool) → runFrom wn s' (l.map (shStage b)) i (t + b) (V.map (shVisit b)) = ⟨(runFrom wn s l i t V).V.map (shVisit b), (runFrom wn s l i t V).kind, (runFrom wn s l i t V).num⟩
  | [], i, t, V, _, _ => rfl
  | x :: l, i, t, V, hV, hx => by
    rw [List.map_cons]
    unfold runFrom
    rw [h4, h5, slot_sh (hx x (by simp)) h1 h2 h3]
    cases hs : slot x s t (s.mv.getD i 0) (s.dur.getD i 0) with
    | none => rfl
    | some o =>
      simp only [Option.map_some]
      have e0 : o.start + b + s.dur.getD i 0 = o.start + s.dur.getD i 0 + b := by omega
      have e : V.map (shVisit b) ++ [(⟨(i : Int), (shSlot b o).tool, (shSlot b o).start, (shSlot b o).start + s.dur.getD i 0⟩ : Visit)] = (V ++ [(⟨(i : Int), o.tool, o.start, o.start + s.dur.getD i 0⟩ : Visit)]).map (shVisit b) := by
        rw [List.map_append, List.map_cons, List.map_nil]; show _ = _ ++ [(⟨(i : Int), o.tool, o.start + b, o.start + s.dur.getD i 0 + b⟩ : Visit)]; rw [← e0]; rfl
      have e2 : (shSlot b o).start + s.dur.getD i 0 = o.start + s.dur.getD i 0 + b := e0
      rw [e, firstMiss_sh (by simp [hV]) wn 0 hw]
      cases hf : firstMiss (V ++ [⟨(i : Int), o.tool, o.start, o.start + s.dur.getD i 0⟩]) i wn 0 with
      | some k => rfl
      | none =>
        show runFrom wn s' _ (i + 1) ((shSlot b o).start + s.dur.getD i 0) _ = _
        rw [e2]
        exact run_sh hw h1 h2 h3 h4 h5 l (i + 1) _ _ (by simp [hV]) (fun x hx' => hx x (List.mem_cons_of_mem _ hx'))
end Go.Proofs.Ytngpkipblcihaaa.Pl
