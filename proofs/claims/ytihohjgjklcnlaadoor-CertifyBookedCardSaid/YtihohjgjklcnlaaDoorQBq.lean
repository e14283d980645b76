/-
  Slices of strings as lists, and the contracts of the small functions of layer 2's statements: few, left, binary.
  A scope with labels but without jumps to them, within a fence.
  The contracts of layer 2's small helpers left and binary; and, as a premise, what the walks of its statements ask of the package's functions.
  The contracts of slices.Grow and slices.Concat at strings, as the package calls them: a new row; and the strings of two slices in one row of the call's own.
-/
import Derived.Test.YtihohjgjklcnlaaDoorChecked
import Derived.Test.YtihohjgjklcnlaaDoorQBo1
import Derived.WalkKit
import Derived.OwnWalk
import Derived.Outline
import Derived.Lib.Hide
import Derived.WalkSmall
import Derived.LoopTactic
import Derived.RegionTactic
import Derived.ChangeAlike
import Derived.StillTailTactics
import Derived.Deep.QuietTactic
import Derived.BigQuiet
import Derived.Maps.AppendAt
import Derived.Deep.RegionHeld3
import Derived.Deep.AppendLies
import Derived.ControlIn
import Derived.Scope
import Derived.Lib.AppendZerosOnto
import Derived.Lib.SliceRun
namespace Go.Proofs.YtihohjgjklcnlaaDoor.Wb
open Go.RowKit

theorem below_step {w w1 w2 : World} (a : Below w.heap.size w w1) (b : Below w1.heap.size w1 w2) : Below w.heap.size w w2 := a.trans (b.mono a.size)

/-- A slice of strings that reads as L. -/
def StrA (w : World) (a : Option Addr) (c : Nat) (L : List ByteArray) : Prop :=
  L.length ≤ c ∧ c ≤ maxLen ∧ ∀ i (h : i < L.length), ∃ b off : Nat, a = some ⟨b, off, none⟩ ∧ b < w.heap.size ∧ w.cell? ⟨b, off + i, none⟩ = some (.string L[i])
theorem StrA.below {w w' : World} {a : Option Addr} {c : Nat} {L : List ByteArray} (h : StrA w a c L) (hb : Below w.heap.size w w') : StrA w' a c L := by
  refine ⟨h.1, h.2.1, fun i hi => ?_⟩
  obtain ⟨b, off, rfl, h1, h2⟩ := h.2.2 i hi
  exact ⟨b, off, rfl, Nat.lt_of_lt_of_le h1 hb.size, (hb.cell (p := ⟨b, off + i, none⟩) h1).trans h2⟩
/-- Strings as values. -/
def strV (L : List ByteArray) : List Value := L.map Value.string
/-- A row of strings that the call has made. -/
def StrOwn (w : World) (base : Nat) (v : Value) (L : List ByteArray) : Prop := w.ownsRow base 9 1 v L.length (strV L)
theorem StrOwn.arg {w : World} {base : Nat} {v : Value} {L : List ByteArray} (h : StrOwn w base v L) : ∃ a c, v = .slice a L.length c ∧ StrA w a c L := by
  obtain ⟨h1, ⟨rfl, h2⟩ | ⟨g, cap, cur, rfl, h2, h3, h4, h5, h6, h7⟩⟩ := h
  · exact ⟨none, 0, by rw [h2], by omega, by decide, fun i hi => by omega⟩
  · refine ⟨_, cap, rfl, h4, h5, fun i hi => ⟨g, 0, rfl, ?_, ?_⟩⟩
    · exact (Array.getElem?_eq_some_iff.1 h3).1
    · have hrow : w.ownsRow base 9 1 (.slice (some ⟨g, 0, none⟩) L.length cap) L.length (strV L) := ⟨h1, .inr ⟨g, cap, cur, rfl, h2, h3, h4, h5, h6, h7⟩⟩
      have := hrow.cells (g := g) rfl i (.string L[i]) (by simp [strV, hi])
      cases i <;> simpa [Addr.add] using this
theorem StrOwn.snoc {w : World} {base : Nat} {v : Value} {L : List ByteArray} {x : ByteArray} (h : w.ownsRow base 9 1 v (L.length + 1) (strV L ++ [.string x])) : StrOwn w base v (L ++ [x]) := by
  unfold StrOwn strV
  rw [List.length_append, List.map_append]
  exact h
theorem StrOwn.below {w w' : World} {base : Nat} {v : Value} {L : List ByteArray} (h : StrOwn w base v L) (hb : Below w.heap.size w w') : StrOwn w' base v L := by
  obtain ⟨h1, h2 | ⟨g, cap, cur, rfl, h2, h3, h4⟩⟩ := h
  · exact ⟨h1, .inl h2⟩
  · exact ⟨h1, .inr ⟨g, cap, cur, rfl, h2, by rw [hb.block g (Array.getElem?_eq_some_iff.1 h3).1]; exact h3, h4⟩⟩
theorem StrOwn.mono {w : World} {base base' : Nat} {v : Value} {L : List ByteArray} (h : StrOwn w base v L) (hb : base' ≤ base) : StrOwn w base' v L := by
  obtain ⟨h1, h2 | ⟨g, cap, cur, rfl, h2, h3, h4⟩⟩ := h
  · exact ⟨h1, .inl h2⟩
  · exact ⟨h1, .inr ⟨g, cap, cur, rfl, Nat.le_trans hb h2, h3, h4⟩⟩
/-- What a row that is not empty is. -/
theorem StrOwn.open {w : World} {base : Nat} {v : Value} {L : List ByteArray} (h : StrOwn w base v L) (hL : 0 < L.length) : ∃ g cap, v = .slice (some ⟨g, 0, none⟩) L.length cap ∧ base ≤ g ∧ g < w.heap.size ∧ cap ≤ maxLen ∧
    ∀ j u, (strV L)[j]? = some u → w.cell? ((⟨g, 0, none⟩ : Addr).add j) = some u := by
  obtain ⟨h1, ⟨rfl, h2⟩ | ⟨g, cap, cur, rfl, h2, h3, h4, h5, h6, h7⟩⟩ := h
  · omega
  · have hrow : w.ownsRow base 9 1 (.slice (some ⟨g, 0, none⟩) L.length cap) L.length (strV L) := ⟨h1, .inr ⟨g, cap, cur, rfl, h2, h3, h4, h5, h6, h7⟩⟩
    exact ⟨g, cap, rfl, h2, (Array.getElem?_eq_some_iff.1 h3).1, h5, fun j u hu => hrow.cells (g := g) rfl j u hu⟩
theorem strV_one (L : List ByteArray) : ∀ u ∈ strV L, u.oneCell' = true := fun u hu => by
  unfold strV at hu
  obtain ⟨s, _, rfl⟩ := List.mem_map.1 hu
  simp [Value.oneCell']
theorem StrOwn.cons {w : World} {base : Nat} {v : Value} {L : List ByteArray} {x : ByteArray} (h : w.ownsRow base 9 1 v (1 + L.length) ([.string x] ++ strV L)) : StrOwn w base v (x :: L) := by
  unfold StrOwn strV
  rw [List.length_cons, List.map_cons, Nat.add_comm]
  exact h
theorem addr_block (a : Addr) (n : Nat) : (a.add n).block = a.block := by unfold Addr.add; split <;> rfl
/-- A literal of one string. -/
theorem StrOwn.lit (w : World) (x : ByteArray) : StrOwn (w.alloc (.cells #[.string x] 9)) w.heap.size (.slice (some ⟨w.heap.size, 0, none⟩) 1 1) [x] :=
  ⟨rfl, .inr ⟨w.heap.size, 1, #[.string x], rfl, Nat.le_refl _, heap_alloc_new w _, Nat.le_refl _, by decide, rfl, rfl⟩⟩
theorem info_string : (Tryd.prog.info? 9).map (fun i => (i.zero, i.size, i.bytes)) = some (some (.string ⟨#[]⟩), 1, 16) := by kernel_rfl

/-- At most the first 60 bytes of a string. -/
def cut60 (t : ByteArray) : ByteArray := t.extract 0 (min t.size 60)
theorem cut60_le (t : ByteArray) : (cut60 t).size ≤ 60 := by unfold cut60; rw [ByteArray.size_extract]; omega
/-- The number of its bytes, as 'min' gives it. -/
theorem min60 (t : ByteArray) : ∃ m : Nat, (if (60 : Int) < (t.size : Int) then (60 : Int) else (t.size : Int)) = (m : Int) ∧ min (t.size : Int) 60 = (m : Int) ∧ m ≤ t.size ∧ t.extract 0 m = cut60 t :=
  ⟨min t.size 60, by split <;> omega, by omega, by omega, rfl⟩
/-- What few answers. -/
def fewS (L : List ByteArray) (n : Nat) : List ByteArray := (L.take n).map cut60
theorem few_le (L : List ByteArray) (n : Nat) : (fewS L n).length ≤ n := by simp [fewS]; omega

end Go.Proofs.YtihohjgjklcnlaaDoor.Wb

namespace Go.Proofs.YtihohjgjklcnlaaDoor.Wb
open Go

section
variable {F : Fence} {n : Nat} {P : Program} {Q : Exit → Act → World → Prop} {a : Act} {w : World}
theorem stepR_scope {b : Frame} {k : List Item} {cs : List Frame} {c : Code} : step P (lone (b.atR a (.code (.scope c) :: k)) cs w) = .next (lone (b.atR a (.code c :: .inScope c :: k)) cs w) :=
  step_lone_go (by simp [stepG, stepG.exec, Frame.atR])
theorem stepR_inScope {b : Frame} {k : List Item} {cs : List Frame} {c : Code} : step P (lone (b.atR a (.inScope c :: k)) cs w) = .next (lone (b.atR a k) cs w) :=
  step_lone_go (by simp [stepG, stepG.exec, Frame.atR])
theorem wpIn_scope_straight {c : Code} (h : c.wpIn F n P (Exit.noGoto Q) a w) : (Code.scope c).wpIn F n P Q a w := by
  intro b k cs hro hb hr
  have h0 : (lone (b.atR a (.code (.scope c) :: k)) cs w).fenced P F := fenced_calm hb hr rfl
  obtain ⟨e, a₁, w₁, hq, harr⟩ := h b (.inScope c :: k) cs hro hb hr
  cases e with
  | normal => exact ⟨.normal, a₁, w₁, hq, .head h0 stepR_scope (StepsIn.trans harr (.one (fenced_calm hb hr rfl) stepR_inScope))⟩
  | exit id =>
    have hx : exitTo id (.inScope c :: k) = exitTo id k := by simp [exitTo]
    exact ⟨.exit id, a₁, w₁, hq, fun k' hk => .head h0 stepR_scope (harr.1 k' (by rw [hx]; exact hk)),
      fun hr' hk => let ⟨k₁, h1, h2⟩ := harr.2 hr' (by rw [hx]; exact hk); ⟨k₁, h1, .head h0 stepR_scope h2⟩⟩
  | goto l => exact hq.elim
  | ret => exact ⟨_, a₁, w₁, hq, .of_steps (.one h0 stepR_scope) harr⟩
  | panic ch => exact ⟨_, a₁, w₁, hq, .of_steps (.one h0 stepR_scope) harr⟩
  | outgrown => exact ⟨_, a₁, w₁, hq, .of_steps (.one h0 stepR_scope) harr⟩
end
end Go.Proofs.YtihohjgjklcnlaaDoor.Wb

namespace Go.Proofs.YtihohjgjklcnlaaDoor.Wb
open Go.RowKit Tree

/-- The number of binary digits. -/
def binS (n : Nat) : Nat := if _h : n = 0 then 0 else binS (n / 2) + 1
termination_by n
decreasing_by omega
theorem binS_zero : binS 0 = 0 := by rw [binS]; rfl
theorem binS_pos {n : Nat} (h : n ≠ 0) : binS n = binS (n / 2) + 1 := by rw [binS, dif_neg h]
theorem lt_binS : ∀ (b n : Nat), n ≤ b → n < 2 ^ binS n
  | 0, n, h => by obtain rfl : n = 0 := by omega
                  rw [binS_zero]; decide
  | b + 1, n, h => by
    by_cases h0 : n = 0
    · subst h0; rw [binS_zero]; decide
    · have := lt_binS b (n / 2) (by omega)
      rw [binS_pos h0, Nat.pow_succ]; omega
theorem binS_le : ∀ (b n : Nat), n < 2 ^ b → binS n ≤ b
  | 0, n, h => by obtain rfl : n = 0 := by simpa using h
                  rw [binS_zero]; omega
  | b + 1, n, h => by
    by_cases h0 : n = 0
    · subst h0; rw [binS_zero]; omega
    · rw [Nat.pow_succ] at h
      have := binS_le b (n / 2) (by omega)
      rw [binS_pos h0]; omega


end Go.Proofs.YtihohjgjklcnlaaDoor.Wb

namespace Go.Proofs.YtihohjgjklcnlaaDoor.Wb
open Go.RowKit

/-- A row of strings of the call's own. -/
def RowEnd (L : List ByteArray) (w : World) (e : Ending) (w' : World) : Prop := (∃ v, e = .returned v ∧ StrOwn w' w.heap.size v L) ∧ Below w.heap.size w w'

set_option maxRecDepth 100000 in
set_option maxHeartbeats 1000000 in
theorem grow_any (n : Nat) (w : World) (h0 : 0 < n) (h1 : n < 1000000) :
    Calls Tryd.prog 107 #[.slice none 0 0, .int .i64 n] w (RowEnd [] w) := by
  obtain ⟨i0, hi, hz0, hz1, hz2⟩ := info_parts info_string
  have hold : (Builtin.firstCells i0.size 0 (.slice none 0 0)).run Tryd.prog w.drew = .ok ([] : List Value).toArray w.drew := run_firstCells_none w.drew i0.size 0 0 0
  have hr := fun ty => Lib.run_append_grow_zeros (P := Tryd.prog) w 166 3 ty 9 i0 (.string ⟨#[]⟩) .i64 .i64 Tryd.underlying166 Tryd.underlying3 hi hz0 none 0 0 [] hold n h0 (by omega) (by omega) (by omega) (by rw [hz2]; omega) (growslice_fits (by omega) (by rw [hz2]; omega))
  obtain ⟨G, hG⟩ : ∃ G, G = grownCap w (0 + n) 0 9 := ⟨_, rfl⟩
  have hG1 : 0 + n ≤ G := by rw [hG]; exact grownCap_ge w _ _ _
  have hG2 : G ≤ maxLen := by rw [hG]; exact grownCap_le_maxLen w _ _ _ (by unfold maxLen; omega)
  rw [← hG] at hr
  have hzc : ∀ k, (Builtin.zeroCells #[Value.string ⟨#[]⟩] k).size = k := fun k => by simp [Builtin.zeroCells]
  have hend : RowEnd [] w (.returned (.slice (some ⟨w.heap.size, 0, none⟩) 0 G)) (w.alloc (.cells (Builtin.zeroCells #[Value.string ⟨#[]⟩] n ++ Builtin.zeroCells #[Value.string ⟨#[]⟩] (G - n)) 9)).drew := by
    refine ⟨⟨_, rfl, ?_⟩, ((Below.refl _ w).alloc (Nat.le_refl _) _).drew⟩
    have := World.ownsRow_made (base := w.heap.size) (e := 9) (size := 1) w (Builtin.zeroCells #[Value.string ⟨#[]⟩] n ++ Builtin.zeroCells #[Value.string ⟨#[]⟩] (G - n)) G (Nat.le_refl _) hG2 (by rw [Array.size_append, hzc, hzc]; omega)
    exact this.drew
  have HE := Lib.hid hend
  have HR := Lib.hid hr
  unfold maxLen at hG2
  clear hend hr hold hG hzc
  go_enter Tryd.func107, Tryd.ntmps107
  go_wp2_with (at_builtin; refine Lib.wpList_append_run _ rfl _ _ _ _ rfl _ _ rfl rfl _ _ (HR.out _) ?_)
  go_ret
  exact HE.out

theorem StrA.cells {w : World} {b off c : Nat} {L : List ByteArray} (h : StrA w (some ⟨b, off, none⟩) c L) : ∀ j u, (strV L)[j]? = some u → w.cell? ((⟨b, off, none⟩ : Addr).add j) = some u := by
  intro j u hu
  unfold strV at hu
  rw [List.getElem?_map] at hu
  by_cases hj : j < L.length
  · rw [List.getElem?_eq_getElem hj] at hu
    obtain ⟨b', off', e, _, e2⟩ := h.2.2 j hj
    cases e
    have hadd : (⟨b, off, none⟩ : Addr).add j = ⟨b, off + j, none⟩ := by cases j <;> simp [Addr.add]
    rw [hadd, e2]; exact hu
  · rw [List.getElem?_eq_none (by omega)] at hu; cases hu

set_option maxRecDepth 100000 in
set_option maxHeartbeats 2000000 in
/-- Two slices of strings, the first one not empty, in one row. -/
theorem concat_any (ba oa ca : Nat) (L : List ByteArray) (bb ob cb : Nat) (M : List ByteArray) (g cg : Nat) (w : World) (hA : StrA w (some ⟨ba, oa, none⟩) ca L) (hB : StrA w (some ⟨bb, ob, none⟩) cb M) (hL : L.length < 1000) (hL0 : 0 < L.length) (hM : M.length < 1000) (hM0 : 0 < M.length)
    (hg0 : w.cell? ⟨g, 0, none⟩ = some (.slice (some ⟨ba, oa, none⟩) L.length ca)) (hg1 : w.cell? ⟨g, 1, none⟩ = some (.slice (some ⟨bb, ob, none⟩) M.length cb)) :
    Calls Tryd.prog 96 #[.slice (some ⟨g, 0, none⟩) 2 cg] w (RowEnd (L ++ M) w) := by
  obtain ⟨i0, hi, hz0, hz1, hz2⟩ := info_parts info_string
  have lg := block_lt_of_cell hg0
  have HA := Lib.hid hA
  have HB := Lib.hid hB
  clear hA hB
  go_enter Tryd.func96, Tryd.ntmps96
  go_wp2_with fail
  go_loop [3, 11] (fun t i => ∃ k : Nat, k ≤ 2 ∧ i = .int .i64 k ∧ t = .int .i64 (((if 1 ≤ k then L.length else 0) + (if 2 ≤ k then M.length else 0) : Nat) : Int)) (fun _ i => 2 - (intOf i).toNat)
  case atStart => exact ⟨0, by omega, rfl, rfl⟩
  case round =>
    obtain ⟨k, hk, rfl, rfl⟩ := hrel
    match k, hk with
    | 0, _ =>
      have hx : 0 < L.length + 1 := by omega
      go_wp2_with fail
      go_round
      case rel => exact ⟨1, by omega, rfl, by simp⟩
      case measure => simp [intOf]
    | 1, _ =>
      go_wp2_with fail
      go_round
      case rel => exact ⟨2, by omega, rfl, by simp⟩
      case measure => simp [intOf]
    | 2, _ =>
      go_wp2_with fail
      have hsum : (L.length : Int) + (M.length : Int) = ((L.length + M.length : Nat) : Int) := by omega
      rw [hsum]
      refine (grow_any (L.length + M.length) w (by omega) (by omega)).mono ?_
      rintro e w1 ⟨⟨v, rfl, hown⟩, hb⟩
      clear hsum
      have c0 : w1.cell? ⟨g, 0, none⟩ = some (.slice (some ⟨ba, oa, none⟩) L.length ca) := (hb.cell (p := ⟨g, 0, none⟩) lg).trans hg0
      have c1 : w1.cell? ⟨g, 1, none⟩ = some (.slice (some ⟨bb, ob, none⟩) M.length cb) := (hb.cell (p := ⟨g, 1, none⟩) lg).trans hg1
      have HB0 := Lib.hid (And.intro hown hb)
      clear hown hb
      go_wp2_with fail
      obtain ⟨wo, hwo⟩ : ∃ W, W = w1 := ⟨_, rfl⟩
      rw [← hwo] at HB0 c0 c1 ⊢
      clear hwo
      go_loopw [6, 27] (fun v i wr => ∃ k : Nat, k ≤ 2 ∧ i = .int .i64 k ∧ StrOwn wr w.heap.size v (if k = 0 then [] else if k = 1 then L else L ++ M) ∧ Below w.heap.size w wr ∧ wr.cell? ⟨g, 0, none⟩ = some (.slice (some ⟨ba, oa, none⟩) L.length ca) ∧ wr.cell? ⟨g, 1, none⟩ = some (.slice (some ⟨bb, ob, none⟩) M.length cb)) (fun _ i _ => 2 - (intOf i).toNat)
      case atStart => exact ⟨0, by omega, rfl, HB0.out.1, HB0.out.2, c0, c1⟩
      case round =>
        clear HB0 c0 c1
        obtain ⟨k, hk, rfl, hown, hb, c0, c1⟩ := hrel
        match k, hk with
        | 0, _ =>
          have hown : wr.ownsRow w.heap.size 9 1 u6 0 [] := hown
          have hsrc := StrA.cells (HA.out.below hb)
          have hB0 := hb.size
          have hlt := fun k e => (hown.lt k e).1
          go_wp2_with (at_builtin; refine wpList_append_own _ rfl _ _ 166 rfl w.heap.size 9 i0 (.string ⟨#[]⟩) 1 16 Tryd.underlying166 hi hz0 hz1 hz2 rfl (by decide) _ _ _ rfl hown ⟨ba, oa, none⟩ L.length ca (strV L) rfl (by simp [strV]) hsrc (strV_one L) (by unfold maxLen; omega) (by omega) hB0 ?_; intro v' w4 hown' hgrow _)
          have hb5 : Below w.heap.size w w4 := hb.grown hgrow hB0 hlt
          have ho5 : StrOwn w4 w.heap.size v' L := by
            unfold StrOwn; rw [Nat.zero_add, List.nil_append] at hown'; exact hown'
          have c0' : w4.cell? ⟨g, 0, none⟩ = some (.slice (some ⟨ba, oa, none⟩) L.length ca) := (hb5.cell (p := ⟨g, 0, none⟩) lg).trans hg0
          have c1' : w4.cell? ⟨g, 1, none⟩ = some (.slice (some ⟨bb, ob, none⟩) M.length cb) := (hb5.cell (p := ⟨g, 1, none⟩) lg).trans hg1
          clear hown hown' hgrow hlt hsrc hb c0 c1
          go_wp2_with fail
          go_roundw
          case rel => exact ⟨1, by omega, rfl, ho5, hb5, c0', c1'⟩
          case measure => simp [intOf]
        | 1, _ =>
          have hown : wr.ownsRow w.heap.size 9 1 u6 L.length (strV L) := hown
          have hsrc := StrA.cells (HB.out.below hb)
          have hB0 := hb.size
          have hlt := fun k e => (hown.lt k e).1
          go_wp2_with (at_builtin; refine wpList_append_own _ rfl _ _ 166 rfl w.heap.size 9 i0 (.string ⟨#[]⟩) 1 16 Tryd.underlying166 hi hz0 hz1 hz2 rfl (by decide) _ _ _ rfl hown ⟨bb, ob, none⟩ M.length cb (strV M) rfl (by simp [strV]) hsrc (strV_one M) (by unfold maxLen; omega) (by omega) hB0 ?_; intro v' w4 hown' hgrow _)
          have hb5 : Below w.heap.size w w4 := hb.grown hgrow hB0 hlt
          have ho5 : StrOwn w4 w.heap.size v' (L ++ M) := by
            unfold StrOwn strV; rw [List.length_append, List.map_append]; exact hown'
          have c0' : w4.cell? ⟨g, 0, none⟩ = some (.slice (some ⟨ba, oa, none⟩) L.length ca) := (hb5.cell (p := ⟨g, 0, none⟩) lg).trans hg0
          have c1' : w4.cell? ⟨g, 1, none⟩ = some (.slice (some ⟨bb, ob, none⟩) M.length cb) := (hb5.cell (p := ⟨g, 1, none⟩) lg).trans hg1
          clear hown hown' hgrow hlt hsrc hb c0 c1
          go_wp2_with fail
          go_roundw
          case rel => exact ⟨2, by omega, rfl, ho5, hb5, c0', c1'⟩
          case measure => simp [intOf]
        | 2, _ =>
          have hend : RowEnd (L ++ M) w (.returned u6) wr := ⟨⟨_, rfl, hown⟩, hb⟩
          have HE := Lib.hid hend
          clear hend hown hb
          go_wp2_with fail
          go_ret
          exact HE.out
end Go.Proofs.YtihohjgjklcnlaaDoor.Wb
