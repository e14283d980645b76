/-
  The contracts of slices.Grow and slices.Concat at strings, as the package calls them: a new row; and the strings of two slices in one row of the call's own.
-/
import Derived.Test.YtbaggjhjkignkaaDoorStrs
import Derived.Lib.AppendZerosOnto
import Derived.Lib.SliceRun
namespace Go.Proofs.YtbaggjhjkignkaaDoor
open Go.RowKit

/-- A row of strings of the call's own. -/
def RowEnd (L : List ByteArray) (w : World) (e : Ending) (w' : World) : Prop := (∃ v, e = .returned v ∧ StrOwn w' w.heap.size v L) ∧ Below w.heap.size w w'

set_option maxRecDepth 100000 in
set_option maxHeartbeats 1000000 in
theorem grow_any (n : Nat) (w : World) (h0 : 0 < n) (h1 : n < 1000000) :
    Calls Tryd.prog 54 #[.slice none 0 0, .int .i64 n] w (RowEnd [] w) := by
  obtain ⟨i0, hi, hz0, hz1, hz2⟩ := info_parts info_string
  have hold : (Builtin.firstCells i0.size 0 (.slice none 0 0)).run Tryd.prog w.drew = .ok ([] : List Value).toArray w.drew := run_firstCells_none w.drew i0.size 0 0 0
  have hr := fun ty => Lib.run_append_grow_zeros (P := Tryd.prog) w 26 3 ty 9 i0 (.string ⟨#[]⟩) .i64 .i64 Tryd.underlying26 Tryd.underlying3 hi hz0 none 0 0 [] hold n h0 (by omega) (by omega) (by omega) (by rw [hz2]; omega) (growslice_fits (by omega) (by rw [hz2]; omega))
  obtain ⟨G, hG⟩ : ∃ G, G = grownCap w (0 + n) 0 9 := ⟨_, rfl⟩
  have hG1 : 0 + n ≤ G := by rw [hG]; exact grownCap_ge w _ _ _
  have hG2 : G ≤ maxLen := by rw [hG]; exact grownCap_le_maxLen w _ _ _ (by unfold maxLen; omega)
  rw [← hG] at hr
  have hzc : ∀ k, (Builtin.zeroCells #[Value.string ⟨#[]⟩] k).size = k := fun k => by simp [Builtin.zeroCells]
  have hend : RowEnd [] w (.returned (.slice (some ⟨w.heap.size, 0, none⟩) 0 G)) (w.alloc (.cells (Builtin.zeroCells #[Value.string ⟨#[]⟩] n ++ Builtin.zeroCells #[Value.string ⟨#[]⟩] (G - n)) 9)).drew := by
    refine ⟨⟨_, rfl, ?_⟩, ((Below.refl _ w).alloc (Nat.le_refl _) _).drew⟩
    have := World.ownsRow_made (base := w.heap.size) (e := 9) (size := 1) w (Builtin.zeroCells #[Value.string ⟨#[]⟩] n ++ Builtin.zeroCells #[Value.string ⟨#[]⟩] (G - n)) G (Nat.le_refl _) hG2 (by rw [Array.size_append, hzc, hzc]; omega)
    exact this.drew
  have HE := Lib.hid hend
  have HR := Lib.hid hr
  unfold maxLen at hG2
  clear hend hr hold hG hzc
  go_enter Tryd.func54, Tryd.ntmps54
  go_wp2_with (at_builtin; refine Lib.wpList_append_run _ rfl _ _ _ _ rfl _ _ rfl rfl _ _ (HR.out _) ?_)
  go_ret
  exact HE.out

theorem StrA.cells {w : World} {b off c : Nat} {L : List ByteArray} (h : StrA w (some ⟨b, off, none⟩) c L) : ∀ j u, (strV L)[j]? = some u → w.cell? ((⟨b, off, none⟩ : Addr).add j) = some u := by
  intro j u hu
  unfold strV at hu
  rw [List.getElem?_map] at hu
  by_cases hj : j < L.length
  · rw [List.getElem?_eq_getElem hj] at hu
    obtain ⟨b', off', e, _, e2⟩ := h.2.2 j hj
    cases e
    have hadd : (⟨b, off, none⟩ : Addr).add j = ⟨b, off + j, none⟩ := by cases j <;> simp [Addr.add]
    rw [hadd, e2]; exact hu
  · rw [List.getElem?_eq_none (by omega)] at hu; cases hu

set_option maxRecDepth 100000 in
set_option maxHeartbeats 2000000 in
/-- Two slices of strings, the first one not empty, in one row. -/
theorem concat_any (ba oa ca : Nat) (L : List ByteArray) (bb ob cb : Nat) (M : List ByteArray) (g cg : Nat) (w : World) (hA : StrA w (some ⟨ba, oa, none⟩) ca L) (hB : StrA w (some ⟨bb, ob, none⟩) cb M) (hL : L.length < 1000) (hL0 : 0 < L.length) (hM : M.length < 1000) (hM0 : 0 < M.length)
    (hg0 : w.cell? ⟨g, 0, none⟩ = some (.slice (some ⟨ba, oa, none⟩) L.length ca)) (hg1 : w.cell? ⟨g, 1, none⟩ = some (.slice (some ⟨bb, ob, none⟩) M.length cb)) :
    Calls Tryd.prog 42 #[.slice (some ⟨g, 0, none⟩) 2 cg] w (RowEnd (L ++ M) w) := by
  obtain ⟨i0, hi, hz0, hz1, hz2⟩ := info_parts info_string
  have lg := block_lt_of_cell hg0
  have HA := Lib.hid hA
  have HB := Lib.hid hB
  clear hA hB
  go_enter Tryd.func42, Tryd.ntmps42
  go_wp2_with fail
  go_loop [3, 11] (fun t i => ∃ k : Nat, k ≤ 2 ∧ i = .int .i64 k ∧ t = .int .i64 (((if 1 ≤ k then L.length else 0) + (if 2 ≤ k then M.length else 0) : Nat) : Int)) (fun _ i => 2 - (intOf i).toNat)
  case atStart => exact ⟨0, by omega, rfl, rfl⟩
  case round =>
    obtain ⟨k, hk, rfl, rfl⟩ := hrel
    match k, hk with
    | 0, _ =>
      have hx : 0 < L.length + 1 := by omega
      go_wp2_with fail
      go_round
      case rel => exact ⟨1, by omega, rfl, by simp⟩
      case measure => simp [intOf]
    | 1, _ =>
      go_wp2_with fail
      go_round
      case rel => exact ⟨2, by omega, rfl, by simp⟩
      case measure => simp [intOf]
    | 2, _ =>
      go_wp2_with fail
      have hsum : (L.length : Int) + (M.length : Int) = ((L.length + M.length : Nat) : Int) := by omega
      rw [hsum]
      refine (grow_any (L.length + M.length) w (by omega) (by omega)).mono ?_
      rintro e w1 ⟨⟨v, rfl, hown⟩, hb⟩
      clear hsum
      have c0 : w1.cell? ⟨g, 0, none⟩ = some (.slice (some ⟨ba, oa, none⟩) L.length ca) := (hb.cell (p := ⟨g, 0, none⟩) lg).trans hg0
      have c1 : w1.cell? ⟨g, 1, none⟩ = some (.slice (some ⟨bb, ob, none⟩) M.length cb) := (hb.cell (p := ⟨g, 1, none⟩) lg).trans hg1
      have HB0 := Lib.hid (And.intro hown hb)
      clear hown hb
      go_wp2_with fail
      obtain ⟨wo, hwo⟩ : ∃ W, W = w1 := ⟨_, rfl⟩
      rw [← hwo] at HB0 c0 c1 ⊢
      clear hwo
      go_loopw [6, 27] (fun v i wr => ∃ k : Nat, k ≤ 2 ∧ i = .int .i64 k ∧ StrOwn wr w.heap.size v (if k = 0 then [] else if k = 1 then L else L ++ M) ∧ Below w.heap.size w wr ∧ wr.cell? ⟨g, 0, none⟩ = some (.slice (some ⟨ba, oa, none⟩) L.length ca) ∧ wr.cell? ⟨g, 1, none⟩ = some (.slice (some ⟨bb, ob, none⟩) M.length cb)) (fun _ i _ => 2 - (intOf i).toNat)
      case atStart => exact ⟨0, by omega, rfl, HB0.out.1, HB0.out.2, c0, c1⟩
      case round =>
        clear HB0 c0 c1
        obtain ⟨k, hk, rfl, hown, hb, c0, c1⟩ := hrel
        match k, hk with
        | 0, _ =>
          have hown : wr.ownsRow w.heap.size 9 1 u6 0 [] := hown
          have hsrc := StrA.cells (HA.out.below hb)
          have hB0 := hb.size
          have hlt := fun k e => (hown.lt k e).1
          go_wp2_with (at_builtin; refine wpList_append_own _ rfl _ _ 26 rfl w.heap.size 9 i0 (.string ⟨#[]⟩) 1 16 Tryd.underlying26 hi hz0 hz1 hz2 rfl (by decide) _ _ _ rfl hown ⟨ba, oa, none⟩ L.length ca (strV L) rfl (by simp [strV]) hsrc (strV_one L) (by unfold maxLen; omega) (by omega) hB0 ?_; intro v' w4 hown' hgrow _)
          have hb5 : Below w.heap.size w w4 := hb.grown hgrow hB0 hlt
          have ho5 : StrOwn w4 w.heap.size v' L := by
            unfold StrOwn; rw [Nat.zero_add, List.nil_append] at hown'; exact hown'
          have c0' : w4.cell? ⟨g, 0, none⟩ = some (.slice (some ⟨ba, oa, none⟩) L.length ca) := (hb5.cell (p := ⟨g, 0, none⟩) lg).trans hg0
          have c1' : w4.cell? ⟨g, 1, none⟩ = some (.slice (some ⟨bb, ob, none⟩) M.length cb) := (hb5.cell (p := ⟨g, 1, none⟩) lg).trans hg1
          clear hown hown' hgrow hlt hsrc hb c0 c1
          go_wp2_with fail
          go_roundw
          case rel => exact ⟨1, by omega, rfl, ho5, hb5, c0', c1'⟩
          case measure => simp [intOf]
        | 1, _ =>
          have hown : wr.ownsRow w.heap.size 9 1 u6 L.length (strV L) := hown
          have hsrc := StrA.cells (HB.out.below hb)
          have hB0 := hb.size
          have hlt := fun k e => (hown.lt k e).1
          go_wp2_with (at_builtin; refine wpList_append_own _ rfl _ _ 26 rfl w.heap.size 9 i0 (.string ⟨#[]⟩) 1 16 Tryd.underlying26 hi hz0 hz1 hz2 rfl (by decide) _ _ _ rfl hown ⟨bb, ob, none⟩ M.length cb (strV M) rfl (by simp [strV]) hsrc (strV_one M) (by unfold maxLen; omega) (by omega) hB0 ?_; intro v' w4 hown' hgrow _)
          have hb5 : Below w.heap.size w w4 := hb.grown hgrow hB0 hlt
          have ho5 : StrOwn w4 w.heap.size v' (L ++ M) := by
            unfold StrOwn strV; rw [List.length_append, List.map_append]; exact hown'
          have c0' : w4.cell? ⟨g, 0, none⟩ = some (.slice (some ⟨ba, oa, none⟩) L.length ca) := (hb5.cell (p := ⟨g, 0, none⟩) lg).trans hg0
          have c1' : w4.cell? ⟨g, 1, none⟩ = some (.slice (some ⟨bb, ob, none⟩) M.length cb) := (hb5.cell (p := ⟨g, 1, none⟩) lg).trans hg1
          clear hown hown' hgrow hlt hsrc hb c0 c1
          go_wp2_with fail
          go_roundw
          case rel => exact ⟨2, by omega, rfl, ho5, hb5, c0', c1'⟩
          case measure => simp [intOf]
        | 2, _ =>
          have hend : RowEnd (L ++ M) w (.returned u6) wr := ⟨⟨_, rfl, hown⟩, hb⟩
          have HE := Lib.hid hend
          clear hend hown hb
          go_wp2_with fail
          go_ret
          exact HE.out
end Go.Proofs.YtbaggjhjkignkaaDoor

