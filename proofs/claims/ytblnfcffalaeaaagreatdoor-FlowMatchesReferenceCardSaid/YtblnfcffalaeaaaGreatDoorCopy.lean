/-
  What append([]T{}, xs...) makes: a row of the call's own that reads as xs; nothing older is touched. For bent, which copies the lists of a flow.
-/
import Derived.Test.YtblnfcffalaeaaaGreatDoorMake
import Derived.Lib.SlFresh
namespace Go.Proofs.YtblnfcffalaeaaaGreatDoor
open Go.RowKit Go.Shelf

theorem add_cell (b o i : Nat) : (⟨b, o, none⟩ : Addr).add i = ⟨b, o + i, none⟩ := by unfold Addr.add; split <;> simp_all
theorem copy_run {t e : TypeId} {i : TypeInfo} {z : Value} {size bytes : Nat} (ht : Tryz.prog.underlying t = some (.slice e)) (hi : Tryz.prog.info? e = some i) (hz : i.zero = some z) (hsize : i.size = size) (hby : i.bytes = bytes) (hzs : z.cells.size = size) (hsz : 0 < size)
    (w : World) (ty : TypeId) (xa : Option Addr) (m xc : Nat) (news : List Value) (h0 : xa = none → m = 0) (hl : news.length = m * size)
    (hnews : ∀ ad, xa = some ad → ∀ j u, news[j]? = some u → w.cell? (ad.add j) = some u) (h1 : ∀ u ∈ news, u.oneCell' = true) (h63 : m ≤ maxLen) (hbytes : m * bytes ≤ 140737488355328) :
    ∃ v' w', (Builtin.append_ #[t, t] ty #[.slice (some ⟨w.heap.size, 0, none⟩) 0 0, .slice xa m xc]).run Tryz.prog (w.alloc (.cells #[] e)) = .ok v' w' ∧ w'.ownsRow w.heap.size e size v' m news ∧ Below w.heap.size w w' := by
  have hown : (w.alloc (.cells #[] e)).ownsRow w.heap.size e size (.slice (some ⟨w.heap.size, 0, none⟩) 0 0) 0 [] := World.ownsRow_made w #[] 0 (Nat.le_refl _) (by decide) (by simp)
  have hb := below_new w (.cells #[] e)
  cases xa with
  | none =>
    obtain rfl := h0 rfl
    obtain rfl : news = [] := List.eq_nil_of_length_eq_zero (by simpa using hl)
    refine ⟨_, _, ?_, hown, hb⟩
    simp [Builtin.append_, run_underlying ht, sizeOf, typeInfo, hi, Builtin.lenOf, run_firstCells_none, storeCells]
  | some ad =>
    obtain ⟨v', w', hr, h2, h3, _⟩ := run_append_own (P := Tryz.prog) (w.alloc (.cells #[] e)) w.heap.size t ty e i z size bytes ht hi hz hsize hby hzs hsz _ 0 [] hown ad m xc news hl
      (fun j u hu => cell_below hb (hnews ad rfl j u hu)) h1 (by omega) (by rw [Nat.zero_add]; exact hbytes) hb.size
    refine ⟨v', w', hr, by simpa using h2, hb.grown h3 hb.size (fun k hk => (hown.lt k hk).1)⟩
set_option maxRecDepth 100000 in
/-- A list of integers, copied. -/
theorem copy_ints (w : World) (ty : TypeId) (xa : Option Addr) (xc : Nat) (L : List Int) (h : IntA w xa xc L) (hl : L.length ≤ 1000000) :
    ∃ v' w', (Builtin.append_ #[50, 50] ty #[.slice (some ⟨w.heap.size, 0, none⟩) 0 0, .slice xa L.length xc]).run Tryz.prog (w.alloc (.cells #[] 3)) = .ok v' w' ∧ IntOwn w' w.heap.size v' L ∧ Below w.heap.size w w' := by
  obtain ⟨i0, hi, hz0, hz1, hz2⟩ := info_parts info_int
  refine copy_run Tryz.underlying50 hi hz0 hz1 hz2 rfl (by decide) w ty xa L.length xc (intV L) ?_ (by simp [intV]) ?_ ?_ (by unfold maxLen; omega) (by omega)
  · intro e
    rcases Nat.eq_zero_or_pos L.length with h0 | h0
    · exact h0
    · obtain ⟨b, off, e', _⟩ := h.at h0
      rw [e] at e'; cases e'
  · intro ad e j u hu
    obtain ⟨x, hx, rfl⟩ := by simpa [intV] using hu
    have hj : j < L.length := (List.getElem?_eq_some_iff.1 hx).1
    obtain ⟨b, off, e', _, hc⟩ := h.2.2 j hj
    rw [e] at e'; injection e' with e'; subst e'
    rw [add_cell, hc, (List.getElem?_eq_some_iff.1 hx).2]
  · intro u hu
    obtain ⟨x, _, rfl⟩ := by simpa [intV] using hu
    rfl
theorem winRow_len : ∀ L : List Fl.Win, (winRow L).length = L.length * 3
  | [] => rfl
  | v :: L => by rw [show winRow (v :: L) = winCells v ++ winRow L from rfl, List.length_append, winRow_len L]; simp only [List.length_cons, List.length_nil]; omega
theorem winRow_get : ∀ (L : List Fl.Win) (j : Nat) (u : Value), (winRow L)[j]? = some u → ∃ (i : Nat) (h : i < L.length) (r : Nat), j = i * 3 + r ∧ r < 3 ∧ (winCells L[i])[r]? = some u
  | [], j, u, h => by simp [winRow] at h
  | v :: L, j, u, h => by
    have e : winRow (v :: L) = winCells v ++ winRow L := rfl
    rw [e] at h
    rcases Nat.lt_or_ge j 3 with h3 | h3
    · rw [List.getElem?_append_left (by simpa using h3)] at h
      exact ⟨0, by simp, j, by omega, h3, h⟩
    · rw [List.getElem?_append_right (by simpa using h3)] at h
      obtain ⟨i, hi, r, h1, h2, h4⟩ := winRow_get L (j - 3) u (by simpa using h)
      exact ⟨i + 1, by simp; omega, r, by omega, h2, by simpa using h4⟩
set_option maxRecDepth 100000 in
/-- A list of windows, copied. -/
theorem copy_wins (w : World) (ty : TypeId) (xa : Option Addr) (xc : Nat) (L : List Fl.Win) (h : WinsA w xa xc L) (hl : L.length ≤ 1000000) :
    ∃ v' w', (Builtin.append_ #[23, 23] ty #[.slice (some ⟨w.heap.size, 0, none⟩) 0 0, .slice xa L.length xc]).run Tryz.prog (w.alloc (.cells #[] 58)) = .ok v' w' ∧ w'.ownsRow w.heap.size 58 3 v' L.length (winRow L) ∧ Below w.heap.size w w' := by
  obtain ⟨i0, hi, hz0, hz1, hz2⟩ := info_parts info_win
  refine copy_run Tryz.underlying23 hi hz0 hz1 hz2 rfl (by decide) w ty xa L.length xc (winRow L) ?_ ?_ ?_ ?_ (by unfold maxLen; omega) (by omega)
  · intro e
    rcases Nat.eq_zero_or_pos L.length with h0 | h0
    · exact h0
    · obtain ⟨b, off, e', _⟩ := h.2.2 0 h0
      rw [e] at e'; cases e'
  · exact winRow_len L
  · intro ad e j u hu
    obtain ⟨i, hi', r, rfl, h3, hu⟩ := winRow_get L j u hu
    obtain ⟨b, off, e', _, hc⟩ := h.2.2 i hi'
    rw [e] at e'; injection e' with e'; subst e'
    rw [add_cell]
    rcases (by omega : r = 0 ∨ r = 1 ∨ r = 2) with rfl | rfl | rfl
    · injection hu with hu; subst hu; simpa [Nat.add_assoc] using hc.c0
    · injection hu with hu; subst hu; simpa [Nat.add_assoc] using hc.c1
    · injection hu with hu; subst hu; simpa [Nat.add_assoc] using hc.c2
  · intro u hu
    obtain ⟨v, _, hv⟩ := List.mem_flatMap.1 hu
    simp at hv
    rcases hv with rfl | rfl | rfl <;> rfl
/-- A cell of an own row is set. -/
theorem own_cell_set {w : World} {base : Nat} {e : TypeId} {size g n cap : Nat} {xs : List Value} (h : w.ownsRow base e size (.slice (some ⟨g, 0, none⟩) n cap) n xs) (j : Nat) (u : Value) :
    (w.setCell ⟨g, j, none⟩ u).ownsRow base e size (.slice (some ⟨g, 0, none⟩) n cap) n (xs.set j u) := by
  obtain ⟨h1, ⟨h2, _⟩ | ⟨g', cap', cur, h2, h3, h4, h5, h6, h7, h8⟩⟩ := h
  · cases h2
  · injection h2 with h2 _ h9
    injection h2 with h2; injection h2 with h2; subst h2; subst h9
    refine ⟨by simpa using h1, .inr ⟨g, cap, cur.setIfInBounds j u, rfl, h3, ?_, h5, h6, by simpa using h7, ?_⟩⟩
    · exact block_set h4 u
    · rw [← h8, Array.toList_setIfInBounds, List.take_set]
/-- One step of a list changed, in the row. -/
theorem stepRow_set : ∀ (P : List StepP) (i : Nat) (hi : i < P.length) (p : StepP) (r : Nat) (u : Value), r < 7 → p.cells = (P[i].cells).set r u → (stepRow P).set (i * 7 + r) u = stepRow (P.set i p)
  | x :: P, 0, _, p, r, u, hr, h => by
    rw [show stepRow (x :: P) = x.cells ++ stepRow P from rfl, show (x :: P).set 0 p = p :: P from rfl, show stepRow (p :: P) = p.cells ++ stepRow P from rfl, h, Nat.zero_mul, Nat.zero_add, List.set_append_left _ _ (by simpa using hr)]
    rfl
  | x :: P, i + 1, hi, p, r, u, hr, h => by
    rw [show stepRow (x :: P) = x.cells ++ stepRow P from rfl, show (x :: P).set (i + 1) p = x :: P.set i p from rfl, show stepRow (x :: P.set i p) = x.cells ++ stepRow (P.set i p) from rfl,
      ← stepRow_set P i (by simpa using hi) p r u hr (by simpa using h), List.set_append_right _ _ (by simp; omega)]
    congr 2
    simp; omega
end Go.Proofs.YtblnfcffalaeaaaGreatDoor
