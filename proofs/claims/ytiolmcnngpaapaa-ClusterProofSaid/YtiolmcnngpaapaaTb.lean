/-
  Tables in memory; contracts of emptyTable, standing, refutes.
-/
import Derived.Test.YtiolmcnngpaapaaRz
import Derived.Test.YtiolmcnngpaapaaRep
namespace Go.Proofs.Ytiolmcnngpaapaa
open Go.RowKit Go.Shelf Cy

abbrev rowV (r n : Nat) : Value := .slice (some ⟨r, 0, none⟩) n n
/-- The first n values of a function. -/
def vals (n : Nat) (f : Nat → Int) : List Int := (List.range n).map f
theorem vals_len (n : Nat) (f : Nat → Int) : (vals n f).length = n := by simp [vals]
theorem vals_at {n : Nat} {f : Nat → Int} {i : Nat} (h : i < n) : (vals n f).getD i 0 = f i := by simp [vals, h]
theorem vals_congr {n : Nat} {f g : Nat → Int} (h : ∀ i, i < n → f i = g i) : vals n f = vals n g := by
  unfold vals; exact List.map_congr_left (fun i hi => h i (List.mem_range.1 hi))
theorem vals_set {n : Nat} {f : Nat → Int} {i : Nat} (v : Int) : (vals n f).set i v = vals n (fun j => if j = i then v else f j) := by
  apply List.ext_getElem (by simp [vals])
  intro j h1 h2
  simp only [vals, List.getElem_set, List.getElem_map, List.getElem_range]
  by_cases e : j = i
  · subst e; simp
  · rw [if_neg (fun h => e h.symm), if_neg e]
theorem vals_const (n : Nat) (v : Int) : vals n (fun _ => v) = List.replicate n v := by
  unfold vals; apply List.ext_getElem (by simp); intro j h1 h2; simp
/-- The cells of a table whose first k rows stand at r. -/
def tabCells (n k : Nat) (r : Nat → Nat) : List Value := (List.range n).map fun i => if i < k then rowV (r i) n else .slice none 0 0
theorem tabCells_at {n k : Nat} {r : Nat → Nat} {i : Nat} (h : i < n) : (tabCells n k r)[i]? = some (if i < k then rowV (r i) n else .slice none 0 0) := by simp [tabCells, h]
theorem tabCells_zero (n : Nat) (r : Nat → Nat) : tabCells n 0 r = List.replicate n (.slice none 0 0) := by
  unfold tabCells; apply List.ext_getElem (by simp); intro j h1 h2; simp
/-- A table of which the first k rows are there. -/
structure TabTo (w : World) (B g n k : Nat) (r : Nat → Nat) (f : Nat → Nat → Int) : Prop where
  tab : w.heap[g]? = some (.cells (tabCells n k r).toArray 25)
  row : ∀ i, i < k → i < n → IntRow w (r i) (vals n (f i))
  low : B ≤ g ∧ ∀ i, i < k → i < n → B ≤ r i
  inj : ∀ i j, i < k → j < k → i < n → j < n → r i = r j → i = j
abbrev TabAt (w : World) (B g n : Nat) (r : Nat → Nat) (f : Nat → Nat → Int) : Prop := TabTo w B g n n r f
theorem TabTo.ne {w : World} {B g n k : Nat} {r : Nat → Nat} {f : Nat → Nat → Int} (h : TabTo w B g n k r f) {i : Nat} (hk : i < k) (hi : i < n) : r i ≠ g := fun e => by
  have h1 := h.row i hk hi; unfold IntRow at h1
  rw [e, h.tab] at h1; injection h1 with h1; injection h1 with _ h1; exact absurd h1 (by decide)
theorem TabTo.ks {S : Nat → Prop} {w w' : World} {B g n k : Nat} {r : Nat → Nat} {f : Nat → Nat → Int} (h : TabTo w B g n k r f) (hk : KS S w w') (hg : ¬ S g) (hr : ∀ i, i < k → i < n → ¬ S (r i)) : TabTo w' B g n k r f :=
  ⟨hk.cells _ _ hg h.tab rfl, fun i h1 h2 => (h.row i h1 h2).ks hk (hr i h1 h2), h.low, h.inj⟩
theorem TabTo.below {w w' : World} {B g n k : Nat} {r : Nat → Nat} {f : Nat → Nat → Int} (h : TabTo w B g n k r f) (hb : Below w.heap.size w w') : TabTo w' B g n k r f :=
  h.ks (KS.ofBelow (S := fun _ => False) hb) (fun h => h) (fun _ _ _ h => h)
theorem TabTo.mono {w : World} {B B' g n k : Nat} {r : Nat → Nat} {f : Nat → Nat → Int} (h : TabTo w B g n k r f) (hB : B' ≤ B) : TabTo w B' g n k r f :=
  ⟨h.tab, h.row, ⟨Nat.le_trans hB h.low.1, fun i h1 h2 => Nat.le_trans hB (h.low.2 i h1 h2)⟩, h.inj⟩
theorem TabTo.cells {w : World} {B g n : Nat} {r : Nat → Nat} {f : Nat → Nat → Int} (h : TabAt w B g n r f) {i : Nat} (hi : i < n) : w.cell? ⟨g, i, none⟩ = some (rowV (r i) n) ∧ ∀ j, j < n → w.cell? ⟨r i, j, none⟩ = some (.int .i64 (f i j)) ∧ w.frozen? ⟨r i, j, none⟩ = false := by
  refine ⟨box_cell h.tab i _ (by rw [List.getElem?_toArray, tabCells_at hi, if_pos hi]), fun j hj => ⟨?_, box_fz (h.row i hi hi) j⟩⟩
  have := (h.row i hi hi).cell (i := j) (by rw [vals_len]; exact hj)
  rwa [vals_at hj] at this
/-- One entry set. -/
theorem TabTo.set {w : World} {B g n : Nat} {r : Nat → Nat} {f : Nat → Nat → Int} (h : TabAt w B g n r f) {i j : Nat} (hi : i < n) (v : Int) :
    TabAt (w.setCell ⟨r i, j, none⟩ (.int .i64 v)) B g n r (fun a b => if a = i ∧ b = j then v else f a b) := by
  have hc : Ch (fun k => k = r i) w (w.setCell ⟨r i, j, none⟩ (.int .i64 v)) := Ch.grown (grown_set (w := w) (r i) j _) (fun k e => by injection e with e; exact e.symm)
  refine ⟨(hc.block g (lt_of_block h.tab) (fun e => h.ne hi hi e.symm)).trans h.tab, fun a h1 h2 => ?_, h.low, h.inj⟩
  by_cases e : a = i
  · subst e
    have := (h.row a h1 h2).set j v
    rw [vals_set] at this
    rw [show vals n (fun b => if a = a ∧ b = j then v else f a b) = vals n (fun b => if b = j then v else f a b) from vals_congr (fun b _ => by simp)]
    exact this
  · have := (h.row a h1 h2).ks (KS.ofCh hc) (fun e2 => e (h.inj a i h1 hi h2 hi e2))
    rw [show vals n (fun b => if a = i ∧ b = j then v else f a b) = vals n (f a) from vals_congr (fun b _ => by simp [e])]
    exact this
theorem TabTo.congr {w : World} {B g n k : Nat} {r : Nat → Nat} {f f' : Nat → Nat → Int} (h : TabTo w B g n k r f) (e : ∀ i j, i < n → j < n → f i j = f' i j) : TabTo w B g n k r f' :=
  ⟨h.tab, fun i h1 h2 => by rw [← vals_congr (fun j hj => e i j h2 hj)]; exact h.row i h1 h2, h.low, h.inj⟩
/-- What a call that makes a table leaves. -/
def TabPost (n : Nat) (f : Nat → Nat → Int) (w : World) (e : Ending) (w' : World) : Prop := ∃ g r, e = .returned (rowV g n) ∧ TabAt w' w.heap.size g n r f ∧ Below w.heap.size w w'
theorem info_ints : (Try.prog.info? 25).map (fun i => (i.zero, i.size, i.bytes)) = some (some (.slice none 0 0), 1, 24) := by kernel_rfl
theorem make_table (n : Nat) (hn : n ≤ 1000) (V : World) : (Instr.makeSlice 119 (.int .i64 (n : Int)) (.int .i64 (n : Int))).run Try.prog V = .ok (rowV V.heap.size n) (V.alloc (.cells (Array.replicate n (Value.slice none 0 0)) 25)) := by
  obtain ⟨i0, hi, hz0, hz1, hz2⟩ := info_parts info_ints
  have := run_make (P := Try.prog) V 119 25 i0 (.slice none 0 0) Try.underlying119 hi hz0 .i64 .i64 n n (by omega) (by omega) (by rw [hz2]; omega) (by omega)
  rw [this, hz1, show (madeCells (Value.slice none 0 0).cells ((n : Int).toNat * 1)) = Array.replicate n (Value.slice none 0 0) from by
    apply Array.toList_inj.1
    rw [show (Value.slice none 0 0).cells = #[Value.slice none 0 0] from rfl, toList_madeCells_one]; simp]
  simp
set_option maxRecDepth 100000 in
set_option maxHeartbeats 1000000 in
theorem emptyTable_any (n : Nat) (hn1 : 1 ≤ n) (hn : n ≤ 32) (w : World) : Calls Try.prog 94 #[.int .i64 (n : Int)] w (TabPost n (fun _ _ => (-1099511627776)) w) := by
  have hmk := make_table n (by omega)
  have n0 : (0 : Int) ≤ (n : Int) := by omega
  have n1 : (n : Int) ≤ 32 := by omega
  have HB := Lib.hid (below_new w (.cells (Array.replicate n (Value.slice none 0 0)) 25))
  have HT := Lib.hid (show TabTo (w.alloc (.cells (Array.replicate n (Value.slice none 0 0)) 25)) w.heap.size w.heap.size n 0 (fun _ => 0) (fun _ _ => (-1099511627776)) from
    ⟨by rw [heap_alloc_new, tabCells_zero, List.toArray_replicate], fun i hi => by omega, ⟨Nat.le_refl _, fun i hi => by omega⟩, fun i j hi => by omega⟩)
  go_enter Try.func94, Try.ntmps94
  go_upto_region 2 with (fail)
  clear hmk
  generalize w.alloc (.cells (Array.replicate n (Value.slice none 0 0)) 25) = W1 at *
  go_wp2_with fail
  go_loopw [9] (fun i wr => ∃ (k : Nat) (r : Nat → Nat), k ≤ n ∧ i = .int .i64 (k : Int) ∧ Hid (TabTo wr w.heap.size w.heap.size n k r (fun _ _ => (-1099511627776))) ∧ Hid (Below w.heap.size w wr)) (fun i _ => n - (intOf i).toNat)
  case atStart => exact ⟨0, _, Nat.zero_le _, rfl, HT, HB⟩
  case round =>
    clear HT HB
    obtain ⟨k, r, hk, rfl, HT, HB⟩ := hrel
    by_cases hlt : k < n
    · have k1 : (k : Int) < (n : Int) := by omega
      have k0 : (0 : Int) ≤ (k : Int) := by omega
      have HN := Lib.hid (below_new wr (.cells #[.int .i64 (-1099511627776)] 3))
      have HR := Lib.hid (repeat_any (-1099511627776) n wr.heap.size hn1 hn (wr.alloc (.cells #[.int .i64 (-1099511627776)] 3)) (box_cell (heap_alloc_new wr _) 0 _ rfl))
      go_wp2_with fail
      refine HR.out.mono ?_
      rintro _ w3 ⟨g3, rfl, hr3, hg3, hb3⟩
      have hbw := below_step HN.out hb3
      have HT3 := Lib.hid (HT.out.below hbw)
      have HB3 := Lib.hid (below_step HB.out hbw)
      have hg4 : wr.heap.size ≤ g3 := by simp at hg3; omega
      have HR3 := Lib.hid (show IntRow w3 g3 (vals n (fun _ => (-1099511627776))) from by rw [vals_const]; exact hr3)
      have hlw := lt_of_block HT.out.tab
      have hg5 := HB.out.size
      have z0 := box_fz HT3.out.tab k
      have c0 := box_cell HT3.out.tab k _ (by rw [List.getElem?_toArray, tabCells_at hlt])
      rw [if_neg (by omega)] at c0
      have hlt3 := lt_of_block HT3.out.tab
      have Hg4 := Lib.hid hg4
      have Hlw := Lib.hid hlw
      have Hrl := Lib.hid (show ∀ i, i < k → i < n → r i < wr.heap.size from fun i h1 h2 => lt_of_block (HT.out.row i h1 h2))
      clear hr3 hg3 hb3 hbw HR HN hg4 hlw hg5
      go_wp2_with fail
      have hc : Ch (fun i => i = w.heap.size) w3 (w3.setCell ⟨w.heap.size, k, none⟩ (rowV g3 n)) := Ch.grown (grown_set (w := w3) w.heap.size k _) (fun i e => by injection e with e; exact e.symm)
      have HT4 := Lib.hid (show TabTo (w3.setCell ⟨w.heap.size, k, none⟩ (rowV g3 n)) w.heap.size w.heap.size n (k + 1) (fun i => if i = k then g3 else r i) (fun _ _ => (-1099511627776)) from by
        have hgl := Hlw.out
        have hg4 := Hg4.out
        refine ⟨?_, fun i h1 h2 => ?_, ⟨Nat.le_refl _, fun i h1 h2 => ?_⟩, fun i j h1 h2 h3 h4 he => ?_⟩
        · rw [block_set HT3.out.tab]
          congr 2
          rw [List.setIfInBounds_toArray]
          congr 1
          apply List.ext_getElem? ; intro i
          by_cases hin : i < n
          · rw [List.getElem?_set, tabCells_at hin, tabCells_at hin]
            by_cases e : k = i
            · subst e; simp [tabCells, hin]
            · have e1 : ¬ i = k := fun h => e h.symm
              rw [if_neg e]
              congr 1
              by_cases e2 : i < k
              · rw [if_pos e2, if_pos (by omega), if_neg e1]
              · rw [if_neg e2, if_neg (by omega)]
          · rw [List.getElem?_eq_none (by simp [tabCells]; omega), List.getElem?_eq_none (by simp [tabCells]; omega)]
        · by_cases e : i = k
          · simp only [e, if_true]
            exact HR3.out.ks (KS.ofCh hc) (fun e2 => by omega)
          · simp only [if_neg e]
            exact (HT3.out.row i (by omega) h2).ks (KS.ofCh hc) (fun e2 => HT3.out.ne (by omega) h2 e2)
        · by_cases e : i = k
          · simp only [e, if_true]; omega
          · simp only [if_neg e]; exact HT3.out.low.2 i (by omega) h2
        · by_cases e1 : i = k <;> by_cases e2 : j = k
          · omega
          · simp only [e1, if_true, if_neg e2] at he; have := Hrl.out j (by omega) h4; omega
          · simp only [e2, if_true, if_neg e1] at he; have := Hrl.out i (by omega) h3; omega
          · simp only [if_neg e1, if_neg e2] at he; exact HT3.out.inj i j (by omega) (by omega) h3 h4 he)
      have HB4 := Lib.hid (HB3.out.setCell (Nat.le_refl _) (rowV g3 n) (p := ⟨w.heap.size, k, none⟩))
      go_roundw
      case rel => exact ⟨k + 1, _, hlt, by go_num, HT4, HB4⟩
      case measure => simp [intOf]; omega
    · obtain rfl : k = n := by omega
      have k1 : ¬ (k : Int) < (k : Int) := by omega
      go_wp2_with fail
      go_ret
      exact ⟨_, _, rfl, HT.out, HB.out⟩
end Go.Proofs.Ytiolmcnngpaapaa

