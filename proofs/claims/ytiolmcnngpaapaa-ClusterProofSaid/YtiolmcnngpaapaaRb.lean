/-
  What depends on how many blades a robot has: the functions of its table, and the table.
-/
import Derived.Test.YtiolmcnngpaapaaVc
import Derived.Test.YtiolmcnngpaapaaSl
import Derived.Deep.LoopGhost
import Derived.Maps.Own
namespace Go.Proofs.Ytiolmcnngpaapaa
open Go.RowKit Go.Shelf Go.ChangeMaps Go.MapKept Cl
open Cy (Arc)

/-- The bounds of a valid tool's numbers. -/
structure ToolB (c : Tool) : Prop where
  pick : 0 ≤ c.pick ∧ c.pick ≤ 10000
  place : 0 ≤ c.place ∧ c.place ≤ 10000
  travel : 0 ≤ c.travel ∧ c.travel ≤ 10000
  bl : c.blades = 1 ∨ c.blades = 2
theorem toolB_of {c : Tool} (h : validT c = true) : ToolB c := by
  obtain ⟨h1, h2, h3, h4, -, -⟩ := validT_iff.1 h
  exact ⟨h1, h2, h3, h4⟩
theorem lasting1_any (c : Tool) (hc : ToolB c) (a : Option Addr) (k : Nat) (w : World) : Calls Try.prog 60 #[toolV c a k] w fun e w' => e = .returned (.int .i64 (c.pick + c.travel + c.place)) ∧ Below w.heap.size w w' := by
  obtain ⟨h1, h2, h3, -⟩ := hc
  have HB := Lib.hid (below_new w (toolObj c a k))
  have d1 : IntKind.i64.wrap (c.pick + c.travel) = c.pick + c.travel := IntWalk.i64_in _ (by omega)
  have d2 : IntKind.i64.wrap (c.pick + c.travel + c.place) = c.pick + c.travel + c.place := IntWalk.i64_in _ (by omega)
  go_enter Try.func60, Try.ntmps60
  go_wp2_with fail
  go_ret
  exact ⟨rfl, HB.out⟩
theorem lasting2_any (c : Tool) (hc : ToolB c) (a : Option Addr) (k : Nat) (w : World) : Calls Try.prog 66 #[toolV c a k] w fun e w' => e = .returned (.int .i64 (c.pick + c.place)) ∧ Below w.heap.size w w' := by
  obtain ⟨h1, h2, h3, -⟩ := hc
  have HB := Lib.hid (below_new w (toolObj c a k))
  have d1 : IntKind.i64.wrap (c.pick + c.place) = c.pick + c.place := IntWalk.i64_in _ (by omega)
  go_enter Try.func66, Try.ntmps66
  go_wp2_with fail
  go_ret
  exact ⟨rfl, HB.out⟩
theorem travels1_any (x y : Int) (hx : 0 ≤ x ∧ x ≤ 10) (w : World) : Calls Try.prog 61 #[.int .i64 x, .int .i64 y] w fun e w' => e = .returned (.bool (!(y == x + 1))) ∧ w = w' := by
  have d1 : IntKind.i64.wrap (x + 1) = x + 1 := IntWalk.i64_in _ (by omega)
  generalize hz : x + 1 = z at *
  by_cases h : y = z
  · have e1 : (y != z) = false := by simp [h]
    have e2 : (!(y == z)) = false := by simp [h]
    rw [e2]
    clear h e2
    go_enter Try.func61, Try.ntmps61
    go_wp2_with fail
    go_ret
    exact ⟨rfl, rfl⟩
  · have e1 : (y != z) = true := by simp [h]
    have e2 : (!(y == z)) = true := by simp [h]
    rw [e2]
    clear h e2
    go_enter Try.func61, Try.ntmps61
    go_wp2_with fail
    go_ret
    exact ⟨rfl, rfl⟩
theorem travels2_any (x y : Int) (w : World) : Calls Try.prog 67 #[.int .i64 x, .int .i64 y] w fun e w' => e = .returned (.bool true) ∧ w = w' := by
  go_enter Try.func67, Try.ntmps67
  go_wp2_with fail
  go_ret
  exact ⟨rfl, rfl⟩
/-- A row of arcs that is new. -/
def ArcsN (w : World) (L : List Arc) (e : Ending) (w' : World) : Prop := ∃ a c, e = .returned (.slice a L.length c) ∧ ArcA w' a c L ∧ (∀ x, a = some x → w.heap.size ≤ x.block ∧ x.block < w'.heap.size) ∧ Below w.heap.size w w'
abbrev oArcs (x y : Arc) : Obj := .cells #[.int .i64 x.f, .int .i64 x.t, .int .i64 x.w, .int .i64 x.k, .int .i64 y.f, .int .i64 y.t, .int .i64 y.w, .int .i64 y.k] 71
theorem lit_arcs2 (w : World) (x y : Arc) : ArcA (w.alloc (oArcs x y)) (some ⟨w.heap.size, 0, none⟩) 2 [x, y] := by
  have h := heap_alloc_new w (oArcs x y)
  refine ⟨Nat.le_refl _, by decide, fun i hi => ⟨w.heap.size, 0, rfl, by simp, ?_⟩⟩
  have hi' : i < 2 := hi
  intro j v hv
  have hj : j < 4 := (List.getElem?_eq_some_iff.1 hv).1
  obtain rfl | rfl : i = 0 ∨ i = 1 := by omega
  · obtain rfl | rfl | rfl | rfl : j = 0 ∨ j = 1 ∨ j = 2 ∨ j = 3 := by omega
    all_goals exact box_cell h _ _ hv
  · obtain rfl | rfl | rfl | rfl : j = 0 ∨ j = 1 ∨ j = 2 ∨ j = 3 := by omega
    all_goals exact box_cell h _ _ hv
set_option maxRecDepth 100000 in
theorem between_any (t o k l m : Int) (hk : -10 ≤ k ∧ k ≤ 10) (hm : -1000000 ≤ m ∧ m ≤ 1000000) (w : World) : Calls Try.prog 64 #[.int .i64 t, .int .i64 o, .int .i64 k, .int .i64 l, .int .i64 m] w (ArcsN w [⟨t, o, l, k⟩, ⟨o, t, -m, -k⟩]) := by
  have HA := Lib.hid (lit_arcs2 w ⟨t, o, l, k⟩ ⟨o, t, -m, -k⟩)
  have HB := Lib.hid (below_new w (oArcs ⟨t, o, l, k⟩ ⟨o, t, -m, -k⟩))
  have d1 : IntKind.i64.wrap (-m) = -m := IntWalk.i64_in _ (by omega)
  have d2 : IntKind.i64.wrap (-k) = -k := IntWalk.i64_in _ (by omega)
  go_enter Try.func64, Try.ntmps64
  go_wp2_with fail
  go_ret
  exact ⟨_, _, rfl, HA.out, fun x hx => by injection hx with hx; subst hx; simp, HB.out⟩
set_option maxRecDepth 100000 in
theorem stay2_any (c : Tool) (hc : c.blades = 2) (o : List Int) (oa : Option Addr) (oc : Nat) (j l m : Int) (hm : -1000000 ≤ m ∧ m ≤ 1000000) (w : World) :
    Calls Try.prog 68 #[.slice oa o.length oc, .int .i64 j, .int .i64 l, .int .i64 m] w (ArcsN w (stayArcs c o j l m)) := by
  have HBt := Lib.hid (between_any j j 1 l m (by omega) hm)
  unfold stayArcs
  rw [if_pos hc]
  clear hc
  generalize o.length = ol at *
  go_enter Try.func68, Try.ntmps68
  go_wp2_with fail
  refine (HBt.out _).mono ?_
  rintro _ w1 ⟨a, k, rfl, h1, h2, h3⟩
  have H1 := Lib.hid h1; have H2 := Lib.hid h2; have H3 := Lib.hid h3
  clear h1 h2 h3
  go_wp2_with fail
  go_ret
  exact ⟨a, k, rfl, H1.out, H2.out, H3.out⟩
set_option maxRecDepth 100000 in
theorem stay1_any (c : Tool) (hc : c.blades = 1) (o : List Int) (oa : Option Addr) (oc : Nat) (j l m : Int) (hj : 0 ≤ j ∧ j ≤ 10) (hm : -1000000 ≤ m ∧ m ≤ 1000000) (w : World) (hA : IntsA w oa oc o) :
    Calls Try.prog 62 #[.slice oa o.length oc, .int .i64 j, .int .i64 l, .int .i64 m] w (ArcsN w (stayArcs c o j l m)) := by
  have HI1 := Lib.hid (slIndex_any o j oa oc w hA)
  have HI2 := Lib.hid (slIndex_any o (j - 1) oa oc w hA)
  have HBt := Lib.hid (fun (k : Int) (hk : -10 ≤ k ∧ k ≤ 10) => between_any (j - 1) j k l m hk hm)
  have D1 := Lib.hid (show IntKind.i64.wrap (j - 1) = j - 1 from IntWalk.i64_in _ (by omega))
  unfold stayArcs
  rw [if_neg (by omega)]
  clear hc hA hj
  generalize ix o j = p at *
  generalize ix o (j - 1) = q at *
  generalize hj1 : j - 1 = j1 at *
  have d1 : IntKind.i64.wrap (j - 1) = j1 := by rw [hj1]; exact D1.out
  generalize o.length = ol at *
  by_cases h : p < q
  · rw [if_pos h]
    have HB1 := Lib.hid (HBt.out 1 (by omega))
    clear HBt hj1
    go_enter Try.func62, Try.ntmps62
    go_wp2_with fail
    refine HI1.out.mono ?_
    rintro _ w1 ⟨rfl, rfl⟩
    go_wp2_with fail
    refine HI2.out.mono ?_
    rintro _ w1 ⟨rfl, rfl⟩
    go_wp2_with fail
    refine (HB1.out _).mono ?_
    rintro _ w1 ⟨a, k, rfl, h1, h2, h3⟩
    have H1 := Lib.hid h1; have H2 := Lib.hid h2; have H3 := Lib.hid h3
    clear h1 h2 h3
    go_wp2_with fail
    go_ret
    exact ⟨a, k, rfl, H1.out, H2.out, H3.out⟩
  · rw [if_neg h]
    have HB1 := Lib.hid (HBt.out 0 (by omega))
    clear HBt hj1
    go_enter Try.func62, Try.ntmps62
    go_wp2_with fail
    refine HI1.out.mono ?_
    rintro _ w1 ⟨rfl, rfl⟩
    go_wp2_with fail
    refine HI2.out.mono ?_
    rintro _ w1 ⟨rfl, rfl⟩
    go_wp2_with fail
    refine (HB1.out _).mono ?_
    rintro _ w1 ⟨a, k, rfl, h1, h2, h3⟩
    have H1 := Lib.hid h1; have H2 := Lib.hid h2; have H3 := Lib.hid h3
    clear h1 h2 h3
    go_wp2_with fail
    go_ret
    exact ⟨a, k, rfl, H1.out, H2.out, H3.out⟩
end Go.Proofs.Ytiolmcnngpaapaa
