/-
  values.
-/
import Derived.Test.YtnmjcjkjdbkpnaaDoorSb
namespace Go.Proofs.YtnmjcjkjdbkpnaaDoor
open Go.RowKit Go.Shelf Fc
attribute [local go_sem] Oper.semAt_some
theorem info_int1 : (Tryd.prog.info? 3).map (fun i => (i.zero, i.size, i.bytes)) = some (some (.int .i64 0), 1, 8) := by kernel_rfl
theorem take_vals (F : Fact) (l : List Nat) (k : Nat) (h : k < l.length) : vals F (l.take (k + 1)) = vals F (l.take k) ++ [get F l[k]] := by
  unfold vals; rw [List.take_succ_eq_append_getElem h, List.map_append]; rfl
/-- What values leaves. -/
def ValPost (l : List Int) (w : World) (e : Ending) (w' : World) : Prop := ∃ a c, e = .returned (.slice a l.length c) ∧ IntsA w' a c l ∧ (∀ x, a = some x → w.heap.size ≤ x.block) ∧ Below w.heap.size w w'
set_option maxRecDepth 100000 in
set_option maxHeartbeats 2000000 in
theorem values_any (F : Fact) (l : List Nat) (a : Option Addr) (c : Nat) (w : World) (hA : FldA w a c l) (hL : l.length ≤ 100) (h14 : ∀ x ∈ l, x < 14) : Calls Tryd.prog 38 #[factV F, .slice a l.length c] w (ValPost (vals F l) w) := by
  have HF := Lib.hid (heap_alloc_new w (factObj F))
  have HB := Lib.hid (below_new w (factObj F))
  have HA := Lib.hid hA; have H14 := Lib.hid h14
  obtain ⟨i0, hi, hz0, hz1, hz2⟩ := info_parts info_int1
  clear hA h14
  go_enter Tryd.func38, Tryd.ntmps38
  go_upto_region 1 with (fail)
  generalize w.alloc (factObj F) = w1 at *
  have O0 := Lib.hid (show IntsO w1 w1.heap.size (.slice none 0 0) (vals F (l.take 0)) from RowO.nil _ _ _ _ _)
  go_wp2_with fail
  go_loopw [5, 10] (fun vv i wr => ∃ (k : Nat) (v : Value), k ≤ l.length ∧ i = .int .i64 (k : Int) ∧ v = vv ∧ Hid (IntsO wr w1.heap.size v (vals F (l.take k))) ∧ Hid (Below w1.heap.size w1 wr)) (fun _ i _ => l.length - (intOf i).toNat)
  case atStart => exact ⟨0, _, Nat.zero_le _, rfl, rfl, O0, Lib.hid (Below.refl _ _)⟩
  case round =>
    obtain ⟨k, v, hk, rfl, rfl, HO, HW⟩ := hrel
    by_cases hlt : k < l.length
    · obtain ⟨sb, so, rfl, hsb, hc⟩ := (HA.out.below (HB.out.trans (HW.out.mono HB.out.size))).at (show 0 < l.length by omega)
      have x0 : wr.cell? ⟨sb, so + k * 1 + 0, none⟩ = some (.int .i64 (l[k] : Int)) := hc k hlt 0 _ rfl
      have HT := Lib.hid (take_vals F l k hlt)
      have hx := H14.out l[k] (List.getElem_mem hlt)
      have hlen : (vals F (l.take k)).length = k := by unfold vals; rw [List.length_map, List.length_take]; omega
      simp only [Nat.mul_one, Nat.add_zero] at x0
      clear hc O0
      generalize l[k] = x at *
      have HP := Lib.hid (place_any w.heap.size x hx wr)
      have f0 := fact_cell (box_below HF.out HW.out) hx
      generalize cellOf x = ox at *
      have HV5 := Lib.hid (show wr.ownsRow w1.heap.size 3 1 v k ((vals F (l.take k)).flatMap intCells) from by have := HO.out; unfold IntsO RowO at this; rwa [hlen] at this)
      have hs := HW.out.size
      clear hlen HO
      have i1 : (0 : Int) ≤ (k : Int) := by omega
      have i2 : (k : Int) < (l.length : Int) := by omega
      have i4 : ((k : Int)).toNat = k := by omega
      go_wp2_with fail
      refine HP.out.mono ?_; rintro e w2 ⟨rfl, rfl⟩
      generalize get F x = n at *
      go_wp2_with (at_builtin; refine wpList_append_own _ rfl _ _ 36 rfl w1.heap.size 3 i0 (.int .i64 0) 1 8 Tryd.underlying36 hi hz0 hz1 hz2 rfl (by decide) _ _ _ rfl (HV5.out.alloc _) ⟨w2.heap.size, 0, none⟩ 1 1 [.int .i64 n] rfl rfl (cell_one_new _ _ _) (by simp [Value.oneCell']) (by unfold maxLen; omega) (by omega) (by simp; omega) ?_; intro v' w6 hown' hgrow _)
      have O6 := Lib.hid (show IntsO w6 w1.heap.size v' (vals F (l.take (k + 1))) by rw [HT.out]; unfold IntsO; exact RowO.snoc (by rw [show (vals F (l.take k)).length = k from by unfold vals; rw [List.length_map, List.length_take]; omega]; exact hown'))
      have G6 := Lib.hid (HW.out.trans (((Below.refl w1.heap.size w2).alloc hs (.cells #[.int .i64 n] 3)).grown hgrow (by simp; omega) (fun kk e => (HV5.out.lt kk e).1)))
      clear hown' hgrow
      go_wp2_with fail
      go_roundw
      case rel => exact ⟨k + 1, _, hlt, by go_num, rfl, O6, G6⟩
      case measure => simp [intOf]; omega
    · have i2 : ¬ (k : Int) < (l.length : Int) := by omega
      have HT := Lib.hid (show IntsO wr w1.heap.size v (vals F l) from by have := HO.out; rwa [List.take_of_length_le (by omega)] at this)
      have G := Lib.hid (below_step HB.out HW.out)
      go_wp2_with fail
      go_ret
      obtain ⟨ra, rc, rfl, hr, hb⟩ := RowO.arg int_len HT.out
      exact ⟨ra, rc, rfl, hr, fun x hx => by have h1 := hb x hx; have h2 := (World.ownsRow.lt HT.out _ h1).1; have h3 := HB.out.size; omega, G.out⟩
end Go.Proofs.YtnmjcjkjdbkpnaaDoor
