/-
  Jobs in memory; worlds that have only grown; the rules' functions.
-/
import Derived.Test.YtjdhjlhcdpekbaaBase
import Derived.Test.YtjdhjlhcdpekbaaDp
import Derived.Shelf.SlSortCmp.InsertionK
namespace Go.Proofs.Ytjdhjlhcdpekbaa
open Go.RowKit Go.Shelf Go.Sort Dsp

def jbCells (a : Jb) : List Value := [.int .i64 a.lot, .int .i64 a.rcp, .bool a.hot, .int .i64 a.due, .int .i64 a.arr, .int .i64 a.len, .int .i64 a.cnt]
abbrev jbV (a : Jb) : Value := .agg #[.int .i64 a.lot, .int .i64 a.rcp, .bool a.hot, .int .i64 a.due, .int .i64 a.arr, .int .i64 a.len, .int .i64 a.cnt]
def jbRow (l : List Jb) : List Value := l.flatMap jbCells
theorem jbRow_length (l : List Jb) : (jbRow l).length = l.length * 7 := by
  unfold jbRow; induction l with
  | nil => rfl
  | cons x l ih => rw [List.flatMap_cons, List.length_append, ih]; simp [jbCells]; omega
theorem jbRow_append (a b : List Jb) : jbRow (a ++ b) = jbRow a ++ jbRow b := by simp [jbRow]
theorem jbRow_snoc (l : List Jb) (b : Jb) : jbRow (l ++ [b]) = jbRow l ++ jbCells b := by simp [jbRow]
theorem jbRow_at (l : List Jb) (i j : Nat) (hi : i < l.length) (hj : j < 7) : (jbRow l)[i * 7 + j]? = (jbCells l[i])[j]? := flat_at jbCells 7 (fun _ => rfl) l i j hi hj
theorem jbRow_one (u : Value) (l : List Jb) (h : u ∈ jbRow l) : u.oneCell' = true := by
  unfold jbRow at h
  obtain ⟨b, _, hu⟩ := List.mem_flatMap.1 h
  simp only [jbCells, List.mem_cons, List.not_mem_nil, or_false] at hu
  rcases hu with rfl | rfl | rfl | rfl | rfl | rfl | rfl <;> rfl
/-- The cells of the job at place i. -/
def JbC (w : World) (b o : Nat) (a : Jb) : Prop :=
  w.cell? ⟨b, o, none⟩ = some (.int .i64 a.lot) ∧ w.cell? ⟨b, o + 1, none⟩ = some (.int .i64 a.rcp) ∧ w.cell? ⟨b, o + 2, none⟩ = some (.bool a.hot) ∧ w.cell? ⟨b, o + 3, none⟩ = some (.int .i64 a.due) ∧
    w.cell? ⟨b, o + 4, none⟩ = some (.int .i64 a.arr) ∧ w.cell? ⟨b, o + 5, none⟩ = some (.int .i64 a.len) ∧ w.cell? ⟨b, o + 6, none⟩ = some (.int .i64 a.cnt)
theorem JbC.below {w w' : World} {b o : Nat} {a : Jb} (h : JbC w b o a) (hb : Below w.heap.size w w') : JbC w' b o a :=
  ⟨cell_below hb h.1, cell_below hb h.2.1, cell_below hb h.2.2.1, cell_below hb h.2.2.2.1, cell_below hb h.2.2.2.2.1, cell_below hb h.2.2.2.2.2.1, cell_below hb h.2.2.2.2.2.2⟩
/-- A slice of jobs that reads as l. -/
def JbA (w : World) (a : Option Addr) (c : Nat) (l : List Jb) : Prop :=
  l.length ≤ c ∧ c ≤ maxLen ∧ ∀ i (h : i < l.length), ∃ b off : Nat, a = some ⟨b, off, none⟩ ∧ b < w.heap.size ∧ JbC w b (off + i * 7) l[i]
theorem JbA.below {w w' : World} {a : Option Addr} {c : Nat} {l : List Jb} (h : JbA w a c l) (hb : Below w.heap.size w w') : JbA w' a c l := by
  refine ⟨h.1, h.2.1, fun i hi => ?_⟩
  obtain ⟨b, off, rfl, h1, h2⟩ := h.2.2 i hi
  exact ⟨b, off, rfl, Nat.lt_of_lt_of_le h1 hb.size, h2.below hb⟩
theorem JbA.nil (w : World) : JbA w none 0 [] := ⟨Nat.le_refl _, by decide, fun i hi => by cases hi⟩
theorem JbA.at {w : World} {a : Option Addr} {c : Nat} {l : List Jb} (h : JbA w a c l) (h0 : 0 < l.length) : ∃ b off : Nat, a = some ⟨b, off, none⟩ ∧ b < w.heap.size ∧ ∀ i (h : i < l.length), JbC w b (off + i * 7) l[i] := by
  obtain ⟨b, off, rfl, h1, -⟩ := h.2.2 0 h0
  refine ⟨b, off, rfl, h1, fun i hi => ?_⟩
  obtain ⟨b', off', e, _, h2⟩ := h.2.2 i hi
  injection e with e; injection e with e1 e2; subst e1; subst e2; exact h2
/-- A row of jobs that the call has made. -/
abbrev JbOwn (w : World) (B : Nat) (v : Value) (l : List Jb) : Prop := w.ownsRow B 43 7 v l.length (jbRow l)
theorem JbOwn.arg {w : World} {B : Nat} {v : Value} {l : List Jb} (h : JbOwn w B v l) : ∃ a c, v = .slice a l.length c ∧ JbA w a c l ∧ (∀ x, a = some x → v.ownBlock = some x.block) := by
  obtain ⟨a, c, rfl, h1, h2, h3⟩ := own_slice h
  refine ⟨a, c, rfl, ⟨h1, h2, fun i hi => ?_⟩, fun x hx => by subst hx; rfl⟩
  obtain ⟨g, rfl, hg, hc⟩ := h3 (by omega)
  have at_ : ∀ j v, j < 7 → (jbCells l[i])[j]? = some v → w.cell? ⟨g, 0 + (i * 7 + j), none⟩ = some v := fun j v hj hv => hc _ _ (by rw [jbRow_at l i j hi hj]; exact hv)
  have z : ∀ j, 0 + (i * 7 + j) = 0 + i * 7 + j := fun j => by omega
  exact ⟨g, 0, rfl, hg, by have := at_ 0 _ (by decide) rfl; simpa using this, by have := at_ 1 _ (by decide) rfl; rwa [z] at this, by have := at_ 2 _ (by decide) rfl; rwa [z] at this, by have := at_ 3 _ (by decide) rfl; rwa [z] at this,
    by have := at_ 4 _ (by decide) rfl; rwa [z] at this, by have := at_ 5 _ (by decide) rfl; rwa [z] at this, by have := at_ 6 _ (by decide) rfl; rwa [z] at this⟩
theorem JbOwn.nil (w : World) (B : Nat) : JbOwn w B (.slice none 0 0) [] := World.ownsRow_nil _ _ _ _
theorem JbOwn.mono {w : World} {B B' : Nat} {v : Value} {l : List Jb} (h : JbOwn w B v l) (hB : B' ≤ B) : JbOwn w B' v l := by
  obtain ⟨h1, h2 | ⟨g, cap, cur, rfl, h2, h3, h4⟩⟩ := h
  · exact ⟨h1, .inl h2⟩
  · exact ⟨h1, .inr ⟨g, cap, cur, rfl, Nat.le_trans hB h2, h3, h4⟩⟩
theorem JbOwn.snoc {w : World} {B : Nat} {v : Value} {l : List Jb} {b : Jb} (h : w.ownsRow B 43 7 v (l.length + 1) (jbRow l ++ jbCells b)) : JbOwn w B v (l ++ [b]) := by
  unfold JbOwn; rw [List.length_append, jbRow_snoc]; exact h
theorem info_job : (Try.prog.info? 43).map (fun i => (i.zero, i.size, i.bytes)) = some (some (.agg #[.int .i64 0, .int .i64 0, .bool false, .int .i64 0, .int .i64 0, .int .i64 0, .int .i64 0]), 7, 56) := by kernel_rfl

/-! ### worlds that have only grown -/
def Gr (w w' : World) : Prop := ∃ (q : Nat) (os : Array Obj), w' = grow (w.drewN q) os
theorem Gr.refl (w : World) : Gr w w := ⟨0, #[], by rw [grow_empty]; rfl⟩
theorem Gr.alloc {w w1 : World} (h : Gr w w1) (o : Obj) : Gr w (w1.alloc o) := by
  obtain ⟨q, os, rfl⟩ := h
  exact ⟨q, os.push o, by unfold grow World.alloc; simp⟩
theorem Gr.drew {w w1 : World} (h : Gr w w1) : Gr w w1.drew := by
  obtain ⟨q, os, rfl⟩ := h
  exact ⟨q + 1, os, rfl⟩
theorem Gr.drewN {w w1 : World} (h : Gr w w1) (n : Nat) : Gr w (w1.drewN n) := by
  obtain ⟨q, os, rfl⟩ := h
  exact ⟨q + n, os, by unfold grow World.drewN; simp [Nat.add_assoc]⟩
theorem Gr.trans {w w1 w2 : World} (h : Gr w w1) (k : Gr w1 w2) : Gr w w2 := by
  obtain ⟨q, os, rfl⟩ := h
  obtain ⟨q', os', rfl⟩ := k
  exact ⟨q + q', os ++ os', by unfold grow World.drewN; simp [Nat.add_assoc, Array.append_assoc]⟩
theorem Gr.below {w w1 : World} (h : Gr w w1) : Below w.heap.size w w1 := by
  obtain ⟨q, os, rfl⟩ := h
  refine ⟨rfl, rfl, rfl, ?_, fun k hk => ?_⟩
  · simp [grow, World.drewN]
  · simp only [grow, World.drewN]; rw [Array.getElem?_append_left hk]

/-! ### the rules' functions -/
/-- A rule's function, for the recipe in the box B. -/
def byV (B x : Nat) : Value := if x = 1 then .func (.func 91) #[] #[] else if x = 2 then .func (.func 92) #[] #[] else if x = 3 then .func (.func 93) #[] #[.pointer (some ⟨B, 0, none⟩)]
  else if x = 4 then .func (.func 94) #[] #[] else if x = 5 then .func (.func 95) #[] #[] else if x = 6 then .func (.func 96) #[] #[] else .func (.func 74) #[] #[]
def isBy (q : Nat) (r : Int) (a b : Jb) : Bool := if q = 0 then decide (a.lot < b.lot) else byR q r a b
abbrev GrB (w : World) (b : Bool) (e : Ending) (w' : World) : Prop := e = .returned (.bool b) ∧ Gr w w'
theorem by1_any (a b : Jb) (w : World) : Calls Try.prog 91 #[jbV a, jbV b] w (GrB w (a.hot && !b.hot)) := by
  obtain ⟨a0, a1, a2, a3, a4, a5, a6⟩ := a
  obtain ⟨b0, b1, b2, b3, b4, b5, b6⟩ := b
  cases a2 <;> cases b2 <;>
  · go_enter Try.func91, Try.ntmps91
    go_wp2_with fail
    go_ret
    exact ⟨rfl, ((Gr.refl _).alloc _).alloc _⟩
theorem by2_any (a b : Jb) (w : World) : Calls Try.prog 92 #[jbV a, jbV b] w (GrB w (decide (a.due < b.due))) := by
  obtain ⟨a0, a1, a2, a3, a4, a5, a6⟩ := a
  obtain ⟨b0, b1, b2, b3, b4, b5, b6⟩ := b
  go_enter Try.func92, Try.ntmps92
  go_wp2_with fail
  go_ret
  exact ⟨rfl, ((Gr.refl _).alloc _).alloc _⟩
theorem by4_any (a b : Jb) (w : World) : Calls Try.prog 94 #[jbV a, jbV b] w (GrB w (decide (a.arr < b.arr))) := by
  obtain ⟨a0, a1, a2, a3, a4, a5, a6⟩ := a
  obtain ⟨b0, b1, b2, b3, b4, b5, b6⟩ := b
  go_enter Try.func94, Try.ntmps94
  go_wp2_with fail
  go_ret
  exact ⟨rfl, ((Gr.refl _).alloc _).alloc _⟩
theorem by5_any (a b : Jb) (w : World) : Calls Try.prog 95 #[jbV a, jbV b] w (GrB w (decide (a.len < b.len))) := by
  obtain ⟨a0, a1, a2, a3, a4, a5, a6⟩ := a
  obtain ⟨b0, b1, b2, b3, b4, b5, b6⟩ := b
  go_enter Try.func95, Try.ntmps95
  go_wp2_with fail
  go_ret
  exact ⟨rfl, ((Gr.refl _).alloc _).alloc _⟩
theorem by6_any (a b : Jb) (w : World) : Calls Try.prog 96 #[jbV a, jbV b] w (GrB w (decide (b.cnt < a.cnt))) := by
  obtain ⟨a0, a1, a2, a3, a4, a5, a6⟩ := a
  obtain ⟨b0, b1, b2, b3, b4, b5, b6⟩ := b
  go_enter Try.func96, Try.ntmps96
  go_wp2_with fail
  go_ret
  exact ⟨rfl, ((Gr.refl _).alloc _).alloc _⟩
theorem comparison1_any (a b : Jb) (w : World) : Calls Try.prog 74 #[jbV a, jbV b] w (GrB w (decide (a.lot < b.lot))) := by
  obtain ⟨a0, a1, a2, a3, a4, a5, a6⟩ := a
  obtain ⟨b0, b1, b2, b3, b4, b5, b6⟩ := b
  go_enter Try.func74, Try.ntmps74
  go_wp2_with fail
  go_ret
  exact ⟨rfl, ((Gr.refl _).alloc _).alloc _⟩
theorem by3_any (a b : Jb) (r : Int) (B : Nat) (w : World) (hB : w.cell? ⟨B, 0, none⟩ = some (.int .i64 r)) : Calls Try.prog 93 #[jbV a, jbV b, .pointer (some ⟨B, 0, none⟩)] w (GrB w (decide (a.rcp = r) && !decide (b.rcp = r))) := by
  obtain ⟨a0, a1, a2, a3, a4, a5, a6⟩ := a
  obtain ⟨b0, b1, b2, b3, b4, b5, b6⟩ := b
  have hc : ∀ o o' : Obj, ((w.alloc o).alloc o').cell? ⟨B, 0, none⟩ = some (.int .i64 r) := fun o o' => cell_below (below_step (below_new w o) (below_new (w.alloc o) o')) hB
  by_cases h1 : a1 = r <;> by_cases h2 : b1 = r <;>
  · go_enter Try.func93, Try.ntmps93
    go_wp2_with fail
    go_ret
    exact ⟨by simp [h1, h2], ((Gr.refl _).alloc _).alloc _⟩
end Go.Proofs.Ytjdhjlhcdpekbaa
