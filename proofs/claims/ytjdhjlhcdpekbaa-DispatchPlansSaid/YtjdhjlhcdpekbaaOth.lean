/-
  Taking a job away, and turning the list of jobs: on paper; parts of a slice of jobs.
-/
import Derived.Test.YtjdhjlhcdpekbaaOrderedW
namespace Go.Proofs.Ytjdhjlhcdpekbaa
open Go.RowKit Go.Shelf Go.Sort Dsp

def LotsOk (J : List Jb) : Prop := ∀ x ∈ J, ∀ y ∈ J, x.lot = y.lot → x = y
theorem lots_ok (X : List (List Int)) : LotsOk (jobsL X) := by
  intro x hx y hy h
  obtain ⟨i, hi, rfl⟩ := List.getElem_of_mem hx
  obtain ⟨k, hk, rfl⟩ := List.getElem_of_mem hy
  have := lot_inj hi hk h
  subst this; rfl
theorem LotsOk.sub {J J' : List Jb} (h : LotsOk J) (hs : ∀ x ∈ J', x ∈ J) : LotsOk J' := fun x hx y hy => h x (hs x hx) y (hs y hy)
theorem pick_char {K : Kal.Kal} {t f r : Int} {rs : List Int} {J : List Jb} {j : Jb} (hv : validR rs = true) (hl : LotsOk J) (h1 : j ∈ J) (h2 : fitsP K t f r j = true) (h3 : ∀ x ∈ J, fitsP K t f r x = true → Dsp.ahead rs r x j = false) : pickP K t f r (orderV rs r J) = some j := by
  cases h : pickP K t f r (orderV rs r J) with
  | none => rw [pick_none hv h j h1] at h2; cases h2
  | some i =>
    obtain ⟨i1, i2, i3⟩ := pick_some hv h
    have a1 := h3 i i1 i2
    have a2 : Dsp.ahead rs r j i = false := by
      cases hq : Dsp.ahead rs r j i
      · rfl
      · rw [i3 j h1 hq] at h2; cases h2
    rw [hl i i1 j h1 (ahead_total a1 a2)]
theorem pick_congr {K : Kal.Kal} {t f r : Int} {rs : List Int} {J J' : List Jb} (hv : validR rs = true) (hl : LotsOk J) (hm : ∀ x, x ∈ J' ↔ x ∈ J) : pickP K t f r (orderV rs r J') = pickP K t f r (orderV rs r J) := by
  have hl' : LotsOk J' := hl.sub fun x hx => (hm x).1 hx
  cases h : pickP K t f r (orderV rs r J) with
  | some j =>
    obtain ⟨h1, h2, h3⟩ := pick_some hv h
    refine pick_char hv hl' ((hm j).2 h1) h2 fun x hx hf => ?_
    cases hq : Dsp.ahead rs r x j
    · rfl
    · rw [h3 x ((hm x).1 hx) hq] at hf; cases hf
  | none =>
    have h1 := pick_none hv h
    cases h' : pickP K t f r (orderV rs r J') with
    | none => rfl
    | some j =>
      obtain ⟨i1, i2, -⟩ := pick_some hv h'
      rw [h1 j ((hm j).1 i1)] at i2; cases i2
theorem mem_rest {J : List Jb} (hn : J.Nodup) {k : Nat} (hk : k < J.length) (x : Jb) : x ∈ J.take k ++ J.drop (k + 1) ↔ x ∈ J ∧ x ≠ J[k] := by
  have e : J = J.take k ++ J[k] :: J.drop (k + 1) := by rw [← List.drop_eq_getElem_cons hk, List.take_append_drop]
  have hn' := hn
  rw [e] at hn'
  have h1 := (List.nodup_append.1 hn').2.2
  have h2 := (List.nodup_cons.1 (List.nodup_append.1 hn').2.1).1
  constructor
  · intro h
    rcases List.mem_append.1 h with h | h
    · exact ⟨List.mem_of_mem_take h, fun e => h1 x h J[k] List.mem_cons_self e⟩
    · exact ⟨List.mem_of_mem_drop h, fun e => h2 (by rw [← e]; exact h)⟩
  · rintro ⟨h, hne⟩
    rw [e] at h
    rcases List.mem_append.1 h with h | h
    · exact List.mem_append_left _ h
    · rcases List.mem_cons.1 h with h | h
      · exact absurd h hne
      · exact List.mem_append_right _ h
theorem mem_turned {J : List Jb} (k : Nat) (x : Jb) : x ∈ J.drop k ++ J.take k ↔ x ∈ J := by
  rw [List.mem_append]
  constructor
  · rintro (h | h)
    · exact List.mem_of_mem_drop h
    · exact List.mem_of_mem_take h
  · intro h
    rw [← List.take_append_drop k J] at h
    rcases List.mem_append.1 h with h | h
    · exact .inr h
    · exact .inl h
/-- What the pick is when a job has been taken away. -/
theorem pick_rest {K : Kal.Kal} {t f r : Int} {rs : List Int} {J : List Jb} (hv : validR rs = true) (hl : LotsOk J) (hn : J.Nodup) {k : Nat} (hk : k < J.length) :
    ((pickP K t f r (orderV rs r J)).isSome = true ∧ J[k].lot = ((pickP K t f r (orderV rs r J)).getD zeroJ).lot → (pickP K t f r (orderV rs r (J.take k ++ J.drop (k + 1)))).isSome = true → ¬ ((pickP K t f r (orderV rs r (J.take k ++ J.drop (k + 1)))).getD zeroJ).lot = ((pickP K t f r (orderV rs r J)).getD zeroJ).lot) ∧
    (¬ ((pickP K t f r (orderV rs r J)).isSome = true ∧ J[k].lot = ((pickP K t f r (orderV rs r J)).getD zeroJ).lot) → pickP K t f r (orderV rs r (J.take k ++ J.drop (k + 1))) = pickP K t f r (orderV rs r J)) := by
  have hm := mem_rest hn hk
  have hl' : LotsOk (J.take k ++ J.drop (k + 1)) := hl.sub fun x hx => ((hm x).1 hx).1
  cases h : pickP K t f r (orderV rs r J) with
  | none =>
    refine ⟨fun h1 => by simp at h1, fun _ => ?_⟩
    have h1 := pick_none hv h
    cases h' : pickP K t f r (orderV rs r (J.take k ++ J.drop (k + 1))) with
    | none => rfl
    | some j =>
      obtain ⟨i1, i2, -⟩ := pick_some hv h'
      rw [h1 j ((hm j).1 i1).1] at i2; cases i2
  | some j =>
    obtain ⟨h1, h2, h3⟩ := pick_some hv h
    simp only [Option.getD_some, Option.isSome_some, true_and]
    refine ⟨fun e hs => ?_, fun hne => ?_⟩
    · cases h' : pickP K t f r (orderV rs r (J.take k ++ J.drop (k + 1))) with
      | none => rw [h'] at hs; cases hs
      | some i =>
        obtain ⟨i1, -, -⟩ := pick_some hv h'
        simp only [Option.getD_some]
        intro e2
        have := (hm i).1 i1
        exact this.2 (hl i this.1 J[k] (List.getElem_mem hk) (by rw [e2, e]))
    · refine pick_char hv hl' ((hm j).2 ⟨h1, fun e => hne (by rw [e])⟩) h2 fun x hx hf => ?_
      cases hq : Dsp.ahead rs r x j
      · rfl
      · rw [h3 x ((hm x).1 hx).1 hq] at hf; cases hf

/-! ### parts of a slice of jobs -/
theorem JbA.cellsR {w : World} {b off c : Nat} {l : List Jb} (h : JbA w (some ⟨b, off, none⟩) c l) : ∀ (j : Nat) (u : Value), (jbRow l)[j]? = some u → w.cell? ⟨b, off + j, none⟩ = some u := by
  intro j u hu
  have hj : j < l.length * 7 := by
    have := (List.getElem?_eq_some_iff.1 hu).1
    rwa [jbRow_length] at this
  have hi : j / 7 < l.length := by omega
  obtain ⟨b', o, e, hb, hc⟩ := h.2.2 (j / 7) hi
  injection e with e; injection e with e1 e2; subst e1; subst e2
  have hm := jbRow_at l (j / 7) (j % 7) hi (Nat.mod_lt _ (by decide))
  rw [show j / 7 * 7 + j % 7 = j by omega, hu] at hm
  have hlt : j % 7 < 7 := Nat.mod_lt _ (by decide)
  rw [show off + j = off + j / 7 * 7 + j % 7 by omega]
  obtain ⟨h0, h1, h2, h3, h4, h5, h6⟩ := hc
  generalize j % 7 = t at *
  obtain rfl | rfl | rfl | rfl | rfl | rfl | rfl : t = 0 ∨ t = 1 ∨ t = 2 ∨ t = 3 ∨ t = 4 ∨ t = 5 ∨ t = 6 := by omega
  all_goals (simp only [jbCells, List.getElem?_cons_succ, List.getElem?_cons_zero, Option.some.injEq] at hm; subst hm; assumption)
theorem jbRow_take2 (l : List Jb) (k : Nat) : ∀ (j : Nat) (u : Value), (jbRow (l.take k))[j]? = some u → (jbRow l)[j]? = some u := by
  intro j u hu
  have e : jbRow l = jbRow (l.take k) ++ jbRow (l.drop k) := by rw [← jbRow_append, List.take_append_drop]
  rw [e, List.getElem?_append_left (List.getElem?_eq_some_iff.1 hu).1]; exact hu
theorem jbRow_drop' (l : List Jb) (k : Nat) (h : k ≤ l.length) : ∀ (j : Nat) (u : Value), (jbRow (l.drop k))[j]? = some u → (jbRow l)[k * 7 + j]? = some u := by
  intro j u hu
  have e : jbRow l = jbRow (l.take k) ++ jbRow (l.drop k) := by rw [← jbRow_append, List.take_append_drop]
  have hlen : (jbRow (l.take k)).length = k * 7 := by rw [jbRow_length, List.length_take]; congr 1; omega
  rw [e, List.getElem?_append_right (by omega), hlen, show k * 7 + j - k * 7 = j by omega]; exact hu
section
variable {P : Program} (w : World)
theorem step_append_own {ops : Array Oper} {o : Oper} {a : Act} {K : Act → World → Prop} {Q : Exit → Act → World → Prop} {E : Prop} (hgd : o.guard = none) (s x : Operand) (t : TypeId)
    (ho : o.op = .call { callee := .builtin .append, args := #[s, x], argTypes := #[t, t] })
    (base : Nat) (e : TypeId) (i : TypeInfo) (z : Value) (size bytes : Nat) (ht : P.underlying t = some (.slice e)) (hi : P.info? e = some i) (hz : i.zero = some z)
    (hsize : i.size = size) (hby : i.bytes = bytes) (hzs : z.cells.size = size) (hsz : 0 < size)
    (v : Value) (n : Nat) (xs : List Value) (hs : a.eval s = v) (hown : w.ownsRow base e size v n xs)
    (ad : Addr) (m c : Nat) (news : List Value) (hx : a.eval x = .slice (some ad) m c) (hl : news.length = m * size) (hnews : ∀ (j : Nat) (u : Value), news[j]? = some u → w.cell? (ad.add j) = some u) (h1 : ∀ u ∈ news, u.oneCell' = true)
    (h63 : n + m ≤ maxLen) (hbytes : (n + m) * bytes ≤ 140737488355328) (hbase : base ≤ w.heap.size)
    (h : ∀ v' w', w'.ownsRow base e size v' (n + m) (xs ++ news) → w.grownBy w' v.ownBlock → (v' = .slice none 0 0 ↔ v = .slice none 0 0 ∧ m = 0) → K (a.put o.dst v') w') :
    if Region.wanted o (yielded ops a.tmps) = true then Oper.wp P o a w K Q else E := by
  have hw : Region.wanted o (yielded ops a.tmps) = true := by simp [Region.wanted, hgd]
  rw [if_pos hw]
  exact wp_append_own w s x t ho base e i z size bytes ht hi hz hsize hby hzs hsz v n xs hs hown ad m c news hx hl hnews h1 h63 hbytes hbase h
end
end Go.Proofs.Ytjdhjlhcdpekbaa
