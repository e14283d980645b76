/-
  Contracts of Free's closure, slices.IndexFunc and slices.DeleteFunc (at bookings).
-/
import Derived.Test.YtjdhjlhcdpekbaaClone
namespace Go.Proofs.Ytjdhjlhcdpekbaa
open Go.RowKit Go.Shelf

/-- The place of the first booking of an owner. -/
def idxO (l : List Kal.Bk) (o : Int) : Option Nat := l.findIdx? (ofO o)
/-- A place as an integer. -/
def placeZ : Option Nat → Int
  | none => -1
  | some i => i
theorem run_clear_rows {P : Program} (w : World) (t ty elem : TypeId) (g o n c : Nat) (cur : Array Value) (tt : TypeId) (z : Value) (hu : P.underlying t = some (.slice elem)) (hz : ∀ w, (zeroValue elem).run P w = .ok z w)
    (hg : w.heap[g]? = some (.cells cur tt (0, 0))) (hn : 0 < n) (hfit : o + n * z.cells.size ≤ cur.size) (h1 : ∀ v ∈ (Builtin.zeroCells z.cells n).toList, v.oneCell' = true) :
    ∃ w', (Builtin.clear_ #[t] ty #[.slice (some ⟨g, o, none⟩) n c]).run P w = .ok (.tuple #[]) w' ∧ w.grownBy w' (some g) ∧ ∃ cur', w'.heap[g]? = some (.cells cur' tt (0, 0)) ∧ cur'.size = cur.size ∧ cur'.toList.take o = cur.toList.take o := by
  have hzs := size_zeroCells z.cells n
  have hst := run_storeCells_at P g o tt (Builtin.zeroCells z.cells n).toList 0 cur w hg (by simp [hzs]; omega) h1
  obtain ⟨n, rfl⟩ : ∃ m, n = m + 1 := ⟨n - 1, by omega⟩
  refine ⟨w.setRow g (cur.toList.take (o + 0) ++ (Builtin.zeroCells z.cells (n + 1)).toList ++ cur.toList.drop (o + 0 + (Builtin.zeroCells z.cells (n + 1)).toList.length)).toArray, by simp [Builtin.clear_, run_underlying hu, hz, hst], ⟨rfl, rfl, rfl, by simp [World.setRow], fun k _ hk => setRow_other w g k _ (fun e => hk (by rw [e]))⟩, _, setRow_heap w g cur _ tt _ hg, ?_, ?_⟩
  · simp [hzs]; omega
  · show List.take o (cur.toList.take (o + 0) ++ (Builtin.zeroCells z.cells (n + 1)).toList ++ _) = _
    rw [List.append_assoc, List.take_left' (by rw [List.length_take, Array.length_toList]; omega)]; rfl
/-- An element of a row is stored. -/
theorem own_put {w : World} {B g cap : Nat} {R : List Kal.Bk} (h : BkOwn w B (.slice (some ⟨g, 0, none⟩) R.length cap) R) (i : Nat) (hi : i < R.length) (x : Kal.Bk) :
    BkOwn ((((w.setCell ⟨g, i * 4, none⟩ (.int .i64 x.tool)).setCell ⟨g, i * 4 + 1, none⟩ (.int .i64 x.s)).setCell ⟨g, i * 4 + 2, none⟩ (.int .i64 x.e)).setCell ⟨g, i * 4 + 3, none⟩ (.int .i64 x.o)) B (.slice (some ⟨g, 0, none⟩) R.length cap) (R.set i x) := by
  obtain ⟨h1, h0 | ⟨g', cap', cur, e, h2, h3, h4, h5, h6, h7⟩⟩ := h
  · omega
  injection e with e _ e2; injection e with e; injection e with e; subst e; subst e2
  unfold BkOwn
  rw [List.length_set]
  refine ⟨by rw [bkRow_length, List.length_set], .inr ⟨g, cap, _, rfl, h2, block_set (block_set (block_set (block_set h3 _) _) _) _, h4, h5, by simpa using h6, ?_⟩⟩
  have hlen : cur.toList.length = cap * 4 := by rw [Array.length_toList, h6]
  have e1 : cur.toList = bkRow (R.take i) ++ (bkRow (R.drop i) ++ cur.toList.drop (R.length * 4)) := by
    conv => lhs; rw [← List.take_append_drop (R.length * 4) cur.toList, h7]
    rw [← List.append_assoc, ← bkRow_append, List.take_append_drop]
  obtain ⟨D, hD⟩ : ∃ D, cur.toList.drop (R.length * 4) = D := ⟨_, rfl⟩
  rw [hD] at e1
  have e2 : bkRow (R.drop i) = Value.int .i64 R[i].tool :: .int .i64 R[i].s :: .int .i64 R[i].e :: .int .i64 R[i].o :: bkRow (R.drop (i + 1)) := by
    rw [List.drop_eq_getElem_cons hi]; rfl
  have htk : (bkRow (R.take i)).length = i * 4 := by rw [bkRow_length, List.length_take]; omega
  have hs : ((((cur.setIfInBounds (i * 4) (.int .i64 x.tool)).setIfInBounds (i * 4 + 1) (.int .i64 x.s)).setIfInBounds (i * 4 + 2) (.int .i64 x.e)).setIfInBounds (i * 4 + 3) (.int .i64 x.o)).toList =
      bkRow (R.take i) ++ Value.int .i64 x.tool :: .int .i64 x.s :: .int .i64 x.e :: .int .i64 x.o :: (bkRow (R.drop (i + 1)) ++ D) := by
    simp only [Array.toList_setIfInBounds]
    rw [e1, e2]
    simp only [List.cons_append]
    exact set4 _ _ _ _ _ _ _ _ _ _ _ htk
  rw [hs]
  have hb : bkRow (R.set i x) = bkRow (R.take i) ++ Value.int .i64 x.tool :: .int .i64 x.s :: .int .i64 x.e :: .int .i64 x.o :: bkRow (R.drop (i + 1)) := by
    rw [List.set_eq_take_append_cons_drop, if_pos hi, bkRow_append]; rfl
  rw [hb, show bkRow (R.take i) ++ Value.int .i64 x.tool :: .int .i64 x.s :: .int .i64 x.e :: .int .i64 x.o :: (bkRow (R.drop (i + 1)) ++ D) =
    (bkRow (R.take i) ++ Value.int .i64 x.tool :: .int .i64 x.s :: .int .i64 x.e :: .int .i64 x.o :: bkRow (R.drop (i + 1))) ++ D by simp]
  rw [List.take_left' (by rw [List.length_append, htk]; simp only [List.length_cons, bkRow_length, List.length_drop]; omega)]
/-- What DeleteFunc has done: j bookings looked at, those that stay lie ahead. -/
def DelSt (l : List Kal.Bk) (o : Int) (j : Nat) (R : List Kal.Bk) (i : Nat) : Prop :=
  ∃ M : List Kal.Bk, R = (l.take j).filter (fun b => !ofO o b) ++ M ++ l.drop j ∧ i = ((l.take j).filter (fun b => !ofO o b)).length ∧ M.length = j - i ∧ i < j ∧ j ≤ l.length
theorem DelSt.len {l : List Kal.Bk} {o : Int} {j i : Nat} {R : List Kal.Bk} (h : DelSt l o j R i) : R.length = l.length ∧ i < l.length := by
  obtain ⟨M, rfl, rfl, hM, h1, h2⟩ := h
  simp only [List.length_append, List.length_drop] at *; omega
theorem DelSt.at {l : List Kal.Bk} {o : Int} {j i : Nat} {R : List Kal.Bk} (h : DelSt l o j R i) (hj : j < l.length) : R[j]? = some l[j] := by
  obtain ⟨M, rfl, rfl, hM, h1, h2⟩ := h
  rw [List.getElem?_append_right (by rw [List.length_append, hM]; omega), List.length_append, hM, List.getElem?_drop, List.getElem?_eq_getElem (by omega)]
  congr 2; omega
theorem DelSt.start {l : List Kal.Bk} {o : Int} {i : Nat} (h : idxO l o = some i) : DelSt l o (i + 1) l i := by
  obtain ⟨hi, hp, hn⟩ := List.findIdx?_eq_some_iff_getElem.1 h
  have e : (l.take (i + 1)).filter (fun b => !ofO o b) = l.take i := by
    rw [List.take_succ_eq_append_getElem hi, List.filter_append, List.filter_eq_self.2 (fun x hx => by
      obtain ⟨j, hj, rfl⟩ := List.mem_take_iff_getElem.1 hx
      have := hn j (by omega); simpa using this)]
    simp [hp]
  refine ⟨[l[i]], ?_, by rw [e, List.length_take]; omega, by simp, by omega, hi⟩
  rw [e, List.append_assoc, List.singleton_append, ← List.drop_eq_getElem_cons hi, List.take_append_drop]
theorem DelSt.gone {l : List Kal.Bk} {o : Int} {j i : Nat} {R : List Kal.Bk} (h : DelSt l o j R i) (hj : j < l.length) (hp : ofO o l[j] = true) : DelSt l o (j + 1) R i := by
  obtain ⟨M, rfl, rfl, hM, h1, h2⟩ := h
  have e : (l.take (j + 1)).filter (fun b => !ofO o b) = (l.take j).filter (fun b => !ofO o b) := by
    rw [List.take_succ_eq_append_getElem hj, List.filter_append]; simp [hp]
  refine ⟨M ++ [l[j]], ?_, by rw [e], by rw [List.length_append, hM]; simp; omega, by omega, by omega⟩
  rw [e, List.drop_eq_getElem_cons hj]; simp
theorem DelSt.stays {l : List Kal.Bk} {o : Int} {j i : Nat} {R : List Kal.Bk} (h : DelSt l o j R i) (hj : j < l.length) (hp : ofO o l[j] = false) : DelSt l o (j + 1) (R.set i l[j]) (i + 1) := by
  obtain ⟨M, rfl, rfl, hM, h1, h2⟩ := h
  have e : (l.take (j + 1)).filter (fun b => !ofO o b) = (l.take j).filter (fun b => !ofO o b) ++ [l[j]] := by
    rw [List.take_succ_eq_append_getElem hj, List.filter_append]; simp [hp]
  generalize (l.take j).filter (fun b => !ofO o b) = F at *
  cases M with
  | nil => simp at hM; omega
  | cons m M =>
    refine ⟨M ++ [l[j]], ?_, by rw [e]; simp, by simp at hM ⊢; omega, by omega, by omega⟩
    rw [e, List.drop_eq_getElem_cons hj]
    simp
theorem DelSt.fin {l : List Kal.Bk} {o : Int} {j i : Nat} {R : List Kal.Bk} (h : DelSt l o j R i) (hj : ¬ j < l.length) : R.take i = l.filter (fun b => !ofO o b) ∧ (l.filter (fun b => !ofO o b)).length = i := by
  obtain ⟨M, rfl, rfl, hM, h1, h2⟩ := h
  have : l.take j = l := List.take_of_length_le (by omega)
  rw [this, List.append_assoc]
  exact ⟨List.take_left' rfl, rfl⟩
end Go.Proofs.Ytjdhjlhcdpekbaa

