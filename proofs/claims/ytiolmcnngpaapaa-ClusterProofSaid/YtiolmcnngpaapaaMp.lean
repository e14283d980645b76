/-
  The map of the greatest lengths: its keys are pairs of integers; what it holds.
-/
import Derived.Test.YtiolmcnngpaapaaTb
import Derived.Maps.OwnIn
import Derived.DeepKeys4
import Derived.OpenShut
namespace Go.Proofs.Ytiolmcnngpaapaa
open Go.RowKit Go.Shelf Cy
open Go.Maps (Keyed)

theorem laidOutM : laidOutB Try.prog = true := by kernel_rfl
theorem endsRow : (99 : TypeId) < Try.prog.types.size := of_decide_eq_true (by kernel_rfl)
theorem endsKt : Try.prog.keyTypeAt 3 99 = true := by kernel_rfl
theorem endsWide : (match Try.prog.underlying 99 with | some (.array _ _) | some (.struct _) => true | _ => false) = true := by kernel_rfl
set_option maxRecDepth 100000 in
theorem endsLaw : Keyed Try.prog 99 := Keyed.of_law (deep_law_laid laidOutM (m := 3) (by omega) endsRow endsKt endsWide)
theorem endsKeyType : Try.prog.keyType 99 = true := by kernel_rfl
theorem cells_ends : Try.prog.cellsOf 99 = 2 := by kernel_rfl
theorem cells_int1 : Try.prog.cellsOf 3 = 1 := by kernel_rfl
abbrev pairV (f t : Int) : Value := .agg #[.int .i64 f, .int .i64 t]
def keyE (f t : Int) : Lit := .string (keyBytes [.int .i64 f, .int .i64 t])
theorem fits_wf {n : Int} (h : Fits n) : (Lit.int .i64 n).wf = true := WalkArith.wf_i64 (by unfold Fits at h; omega)
/-- A pair of integers as a key, in whatever program. -/
theorem keyOf_pairs {P : Program} {k e : TypeId} {f0 f1 : Field} (hu : P.underlying k = some (.struct #[f0, f1])) (t0 : f0.type = e) (t1 : f1.type = e) (o0 : f0.offset = 0) (o1 : f1.offset = 1) (n0 : (f0.name != "_") = true) (n1 : (f1.name != "_") = true)
    (he : P.underlying e = some (.int .i64)) (hk : P.keyType k = true) (hc : P.cellsOf k = 2) (hi : P.cellsOf e = 1) (hs : ∃ m, P.types.size = m + 1) {f t : Int} (hf : (Lit.int .i64 f).wf = true) (ht : (Lit.int .i64 t).wf = true) :
    keyOf P k (pairV f t) = some (keyE f t) := by
  obtain ⟨m, hm⟩ := hs
  have lits : P.keyLits (m + 1 + 1) k [.int .i64 f, .int .i64 t] = some [.int .i64 f, .int .i64 t] := by
    simp [Program.keyLits, hu, hc, t0, t1, o0, o1, hi, he, hf, ht, n0, n1]
  unfold keyOf
  simp only [hu]
  rw [if_pos (by simp [hk, Value.formed, hu, hc]), hm]
  show Option.map _ (P.keyLits (m + 1 + 1) k [.int .i64 f, .int .i64 t]) = _
  rw [lits]; rfl
theorem keyOf_pairs_inv {P : Program} {k e : TypeId} {f0 f1 : Field} (hu : P.underlying k = some (.struct #[f0, f1])) (t0 : f0.type = e) (t1 : f1.type = e) (o0 : f0.offset = 0) (o1 : f1.offset = 1)
    (he : P.underlying e = some (.int .i64)) (hc : P.cellsOf k = 2) (hi : P.cellsOf e = 1) (hs : ∃ m, P.types.size = m + 1) {key : Value} {kl : Lit} (h : keyOf P k key = some kl) :
    ∃ f t, key = pairV f t ∧ kl = keyE f t ∧ (Lit.int .i64 f).wf = true ∧ (Lit.int .i64 t).wf = true := by
  obtain ⟨m, hm⟩ := hs
  unfold keyOf at h
  simp only [hu] at h
  split at h
  · rename_i hcond
    simp only [Bool.and_eq_true] at hcond
    cases key with
    | agg cs =>
      have h2 := hcond.2
      simp only [Value.formed, hu, hc, beq_iff_eq] at h2
      obtain ⟨l⟩ := cs
      match l, h2 with
      | [a, b], _ =>
        rw [hm] at h
        simp only [Value.cells] at h
        cases hl : P.keyLits (m + 1 + 1) k [a, b] with
        | none => rw [hl] at h; cases h
        | some ls =>
          rw [hl] at h
          simp [Program.keyLits, hu, hc, t0, t1, o0, o1, hi, he] at hl
          have hl2 := hl.2
          clear hl
          cases a with
          | int q x =>
            by_cases h1 : q = .i64 ∧ (Lit.int .i64 x).wf = true
            · obtain ⟨rfl, hx⟩ := h1
              cases b with
              | int q2 y =>
                by_cases h2 : q2 = .i64 ∧ (Lit.int .i64 y).wf = true
                · obtain ⟨rfl, hy⟩ := h2
                  simp [hx, hy] at hl2
                  subst hl2
                  exact ⟨x, y, rfl, by unfold keyE; simpa using h.symm, hx, hy⟩
                · simp [hx, h2] at hl2
              | _ => simp [hx] at hl2
            · simp [h1] at hl2
          | _ => simp at hl2
    | _ => simp [Value.formed, hu] at hcond
  · cases h
theorem sizePos : ∃ m, Try.prog.types.size = m + 1 := ⟨Try.prog.types.size - 1, by have : 0 < Try.prog.types.size := of_decide_eq_true (by kernel_rfl); omega⟩
theorem keyOf_ends {f t : Int} (hf : Fits f) (ht : Fits t) : keyOf Try.prog 99 (pairV f t) = some (keyE f t) :=
  keyOf_pairs Try.underlying99 rfl rfl rfl rfl (by decide) (by decide) Try.underlying3 endsKeyType cells_ends cells_int1 sizePos (fits_wf hf) (fits_wf ht)
theorem keyOf_ends_inv {key : Value} {kl : Lit} (h : keyOf Try.prog 99 key = some kl) : ∃ f t, key = pairV f t ∧ kl = keyE f t ∧ Fits f ∧ Fits t := by
  obtain ⟨f, t, h1, h2, h3, h4⟩ := keyOf_pairs_inv Try.underlying99 rfl rfl rfl rfl Try.underlying3 cells_ends cells_int1 sizePos h
  have := bounds_i64 h3; have := bounds_i64 h4
  exact ⟨f, t, h1, h2, ⟨by omega, by omega⟩, ⟨by omega, by omega⟩⟩
theorem keyE_inj {f t f' t' : Int} (hf : Fits f) (ht : Fits t) (hf' : Fits f') (ht' : Fits t') (h : keyE f t = keyE f' t') : f = f' ∧ t = t' := by
  have h1 := keyOf_ends hf ht
  have h2 := keyOf_ends hf' ht'
  rw [h] at h1
  have := endsLaw.inj h1 h2
  injection this with this
  simpa using this
theorem keyE_key {f t : Int} (hf : Fits f) (ht : Fits t) : WideAt.IsKeyLit (keyE f t) := endsLaw.key (keyOf_ends hf ht)

/-! ### the greatest lengths -/
def gstep (p f t : Int) (m : Option Int) (a : Arc) : Option Int :=
  if a.f = f ∧ a.t = t then some (match m with | none => len p a | some c => if c < len p a then len p a else c) else m
/-- The greatest length of the arcs from f to t. -/
def great (p : Int) (l : List Arc) (f t : Int) : Option Int := l.foldl (gstep p f t) none
theorem great_snoc (p : Int) (l : List Arc) (a : Arc) (f t : Int) : great p (l ++ [a]) f t = gstep p f t (great p l f t) a := by unfold great; rw [List.foldl_append]; rfl
theorem great_spec (p f t : Int) (l : List Arc) : (∀ c, great p l f t = some c → (∃ a ∈ l, a.f = f ∧ a.t = t ∧ len p a = c) ∧ ∀ a ∈ l, a.f = f → a.t = t → len p a ≤ c) ∧ (great p l f t = none → ∀ a ∈ l, ¬ (a.f = f ∧ a.t = t)) := by
  have gen : ∀ (r : List Arc), (∀ c, great p r.reverse f t = some c → (∃ a ∈ r.reverse, a.f = f ∧ a.t = t ∧ len p a = c) ∧ ∀ a ∈ r.reverse, a.f = f → a.t = t → len p a ≤ c) ∧ (great p r.reverse f t = none → ∀ a ∈ r.reverse, ¬ (a.f = f ∧ a.t = t)) := by
    intro r; induction r with
    | nil => exact ⟨fun c h => by simp [great] at h, fun _ a ha => by simp at ha⟩
    | cons x r ih =>
      rw [List.reverse_cons, great_snoc]
      unfold gstep
      by_cases hx : x.f = f ∧ x.t = t
      · rw [if_pos hx]
        refine ⟨fun c h => ?_, fun h => by cases h⟩
        injection h with h
        cases hg : great p r.reverse f t with
        | none =>
          rw [hg] at h; simp only at h
          refine ⟨⟨x, by simp, hx.1, hx.2, h⟩, fun a ha h1 h2 => ?_⟩
          rcases List.mem_append.1 ha with ha | ha
          · exact absurd ⟨h1, h2⟩ (ih.2 hg a ha)
          · rw [List.mem_singleton.1 ha]; omega
        | some d =>
          rw [hg] at h; simp only at h
          obtain ⟨⟨y, hy, h3, h4, h5⟩, h6⟩ := ih.1 d hg
          by_cases hd : d < len p x
          · rw [if_pos hd] at h
            refine ⟨⟨x, by simp, hx.1, hx.2, h⟩, fun a ha h1 h2 => ?_⟩
            rcases List.mem_append.1 ha with ha | ha
            · have := h6 a ha h1 h2; omega
            · rw [List.mem_singleton.1 ha]; omega
          · rw [if_neg hd] at h
            refine ⟨⟨y, List.mem_append_left _ hy, h3, h4, by omega⟩, fun a ha h1 h2 => ?_⟩
            rcases List.mem_append.1 ha with ha | ha
            · have := h6 a ha h1 h2; omega
            · rw [List.mem_singleton.1 ha]; omega
      · rw [if_neg hx]
        refine ⟨fun c h => ?_, fun h a ha => ?_⟩
        · obtain ⟨⟨y, hy, h3⟩, h6⟩ := ih.1 c h
          refine ⟨⟨y, List.mem_append_left _ hy, h3⟩, fun a ha h1 h2 => ?_⟩
          rcases List.mem_append.1 ha with ha | ha
          · exact h6 a ha h1 h2
          · rw [List.mem_singleton.1 ha] at h1 h2; exact absurd ⟨h1, h2⟩ hx
        · rcases List.mem_append.1 ha with ha | ha
          · exact ih.2 h a ha
          · rw [List.mem_singleton.1 ha]; exact hx
  have := gen l.reverse
  rwa [List.reverse_reverse] at this
/-- The map D holds the greatest lengths of the arcs of l. -/
structure MapIs (D : DataW Unit) (p : Int) (l : List Arc) : Prop where
  isMap : Maps.IsMap D
  has : ∀ f t, Fits f → Fits t → Maps.has D (keyE f t) = (great p l f t).isSome
  at_ : ∀ f t c, Fits f → Fits t → great p l f t = some c → ∀ z, D.atKey (keyE f t) z = .lit (.int .i64 c)
theorem MapIs.empty (p : Int) : MapIs (.map []) p [] := ⟨Maps.isMap_empty, fun f t _ _ => rfl, fun f t c _ _ h => by simp [great] at h⟩
theorem MapIs.put {D : DataW Unit} {p : Int} {l : List Arc} {a : Arc} (h : MapIs D p l) (hf : Fits a.f) (ht : Fits a.t) (hg : ∀ c, great p l a.f a.t = some c → c < len p a) : MapIs (D.put (keyE a.f a.t) (.lit (.int .i64 (len p a)))) p (l ++ [a]) := by
  have hg' : great p (l ++ [a]) a.f a.t = some (len p a) := by
    rw [great_snoc]; unfold gstep; rw [if_pos ⟨rfl, rfl⟩]
    cases e : great p l a.f a.t with
    | none => rfl
    | some c => simp only [if_pos (hg c e)]
  have ho : ∀ f t, ¬ (a.f = f ∧ a.t = t) → great p (l ++ [a]) f t = great p l f t := fun f t hn => by rw [great_snoc]; unfold gstep; rw [if_neg hn]
  refine ⟨h.isMap.put _ _, fun f t h1 h2 => ?_, fun f t c h1 h2 h3 z => ?_⟩
  · by_cases e : a.f = f ∧ a.t = t
    · obtain ⟨rfl, rfl⟩ := e
      rw [hg', Maps.has_put_same h.isMap (keyE_key hf ht)]; rfl
    · rw [ho f t e, Maps.has_put_other (fun e2 => e (let q := keyE_inj h1 h2 hf ht e2; ⟨q.1.symm, q.2.symm⟩))]
      exact h.has f t h1 h2
  · by_cases e : a.f = f ∧ a.t = t
    · obtain ⟨rfl, rfl⟩ := e
      rw [hg'] at h3; injection h3 with h3; subst h3
      exact Maps.atKey_put_same h.isMap (keyE_key hf ht) _ _
    · rw [ho f t e] at h3
      rw [Maps.atKey_put_other (fun e2 => e (let q := keyE_inj h1 h2 hf ht e2; ⟨q.1.symm, q.2.symm⟩))]
      exact h.at_ f t c h1 h2 h3 z
theorem MapIs.keep {D : DataW Unit} {p : Int} {l : List Arc} {a : Arc} (h : MapIs D p l) {c : Int} (hg : great p l a.f a.t = some c) (hc : ¬ c < len p a) : MapIs D p (l ++ [a]) := by
  have ho : ∀ f t, great p (l ++ [a]) f t = great p l f t := fun f t => by
    rw [great_snoc]; unfold gstep
    by_cases e : a.f = f ∧ a.t = t
    · rw [if_pos e]; obtain ⟨rfl, rfl⟩ := e; rw [hg]; simp only [if_neg hc]
    · rw [if_neg e]
  exact ⟨h.isMap, fun f t h1 h2 => by rw [ho]; exact h.has f t h1 h2, fun f t c h1 h2 h3 z => by rw [ho] at h3; exact h.at_ f t c h1 h2 h3 z⟩
end Go.Proofs.Ytiolmcnngpaapaa

