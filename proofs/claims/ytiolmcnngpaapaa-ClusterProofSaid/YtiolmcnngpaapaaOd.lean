/-
  Orders.
-/
import Derived.Test.YtiolmcnngpaapaaCp
import Derived.Test.YtiolmcnngpaapaaAo
import Derived.Deep.RegionHeld3
namespace Go.Proofs.Ytiolmcnngpaapaa
open Go.RowKit Go.Shelf Cl

abbrev ToolC (X : Nat) (c : Tool) (a : Option Addr) (k : Nat) (v : World) : Prop :=
  v.cell? ⟨X, 0, none⟩ = some (.slice a c.chs.length k) ∧ v.cell? ⟨X, 1, none⟩ = some (.int .i64 c.pick) ∧ v.cell? ⟨X, 2, none⟩ = some (.int .i64 c.place) ∧ v.cell? ⟨X, 3, none⟩ = some (.int .i64 c.travel) ∧ v.cell? ⟨X, 4, none⟩ = some (.int .i64 c.blades)
theorem toolC_of {X : Nat} {c : Tool} {a : Option Addr} {k : Nat} {v : World} (h : v.heap[X]? = some (toolObj c a k)) : ToolC X c a k v :=
  ⟨box_cell h 0 _ rfl, box_cell h 1 _ rfl, box_cell h 2 _ rfl, box_cell h 3 _ rfl, box_cell h 4 _ rfl⟩
theorem fld_rob (e1 e2 e3 e4 : Nat) (W : World) : (Instr.field 76 (.agg #[fnV e1, fnV e2, fnV e3, fnV e4]) 0).run Try.prog W = .ok (fnV e1) W := by kernel_rfl
set_option maxRecDepth 100000 in
set_option maxHeartbeats 4000000 in
theorem cOrders_any (c : Tool) (a : Option Addr) (k : Nat) (w : World) (h : ChA w a k c.chs) : Calls Try.prog 14 #[toolV c a k] w (OrdsPost w (ordersT c)) := by
  have hl := h.len
  unfold maxLen at hl
  have HB := Lib.hid (below_new w (toolObj c a k))
  have HT := Lib.hid (heap_alloc_new w (toolObj c a k))
  have HV := Lib.hid (fun (W : World) (hb : Below w.heap.size w W) => cValid_any c a k W (h.below hb))
  have HE1 := Lib.hid (show validT c = false → ordersT c = [] from fun h => by unfold ordersT; rw [h]; rfl)
  have HE2 := Lib.hid (show validT c = true → c.blades = 1 → ordersT c = everyO (c.chs.length + 1) from fun h h2 => by unfold ordersT; rw [h, if_pos rfl, if_pos h2])
  have HE3 := Lib.hid (show validT c = true → c.blades = 2 → ordersT c = [iota (c.chs.length + 1)] from fun h h2 => by unfold ordersT; rw [h, if_pos rfl, if_neg (by omega)])
  have HRo := Lib.hid (fun (hb : c.blades = 1 ∨ c.blades = 2) w => robotOf_any c hb a k w)
  have HIf := Lib.hid (@validT_iff c)
  clear h
  generalize ordersT c = O at *
  cases hV : validT c with
  | false =>
    obtain rfl := HE1.out hV
    rw [hV] at HV
    clear HE1 HE2 HE3 HRo HIf hV
    obtain ⟨t0, t1, t2, t3, t4⟩ := toolC_of HT.out
    go_enter Try.func14, Try.ntmps14
    go_wp2_with fail
    refine (HV.out _ HB.out).mono ?_
    rintro _ w1 ⟨rfl, b1⟩
    have B1 := Lib.hid (below_step HB.out b1)
    clear b1 t0 t1 t2 t3 t4
    go_wp2_with fail
    go_ret
    exact ⟨_, [], rfl, Lib.hid ⟨World.ownsRow_nil _ _ _ _, fun p hp => by cases hp⟩, rfl, B1⟩
  | true =>
    have hbl := (HIf.out.1 hV).2.2.2.1
    have hch := (HIf.out.1 hV).2.2.2.2.1
    have hRo := HRo.out hbl
    rw [hV] at HV
    obtain ⟨fn, hfn⟩ : ∃ fn, fn = (if c.blades = 1 then 59 else 65) := ⟨_, rfl⟩
    obtain ⟨f2, f3, f4, hrob⟩ : ∃ f2 f3 f4, (if c.blades = 1 then rob1 else rob2) = .agg #[fnV fn, fnV f2, fnV f3, fnV f4] := by
      subst hfn
      rcases hbl with h | h
      · rw [if_pos h, if_pos h]; exact ⟨_, _, _, rfl⟩
      · rw [if_neg (by omega), if_neg (by omega)]; exact ⟨_, _, _, rfl⟩
    rw [hrob] at hRo
    have hen : ∀ args w, (callFunc fn args).run Try.prog w = .ok (.enter fn args) w := by
      subst hfn
      split
      · exact enters_of Try.func59 (by kernel_rfl) rfl
      · exact enters_of Try.func65 (by kernel_rfl) rfl
    have hCo : ∀ W, Calls Try.prog fn #[.int .i64 ((c.chs.length : Int) + 1)] W (OrdsPost W O) := fun W => by
      subst hfn
      rw [show (c.chs.length : Int) + 1 = ((c.chs.length + 1 : Nat) : Int) by omega]
      rcases hbl with h | h
      · rw [if_pos h, HE2.out hV h]; exact everyOrder_any _ (by omega) (by omega) W
      · rw [if_neg (by omega), HE3.out hV h]; exact onlyOrder_any _ (by omega) W
    have HRo' := Lib.hid hRo
    have HCo := Lib.hid hCo
    have d1 : IntKind.i64.wrap ((c.chs.length : Int) + 1) = (c.chs.length : Int) + 1 := IntWalk.i64_in _ (by omega)
    clear HE1 HE2 HE3 HRo HIf hV hRo hCo hrob hfn hbl hch
    obtain ⟨t0, t1, t2, t3, t4⟩ := toolC_of HT.out
    go_enter Try.func14, Try.ntmps14
    go_wp2_with fail
    refine (HV.out _ HB.out).mono ?_
    rintro _ w1 ⟨rfl, b1⟩
    have B1 := Lib.hid (below_step HB.out b1)
    have HT1 := Lib.hid (box_below HT.out b1)
    clear b1 t0 t1 t2 t3 t4
    go_upto_region 3 with (fail)
    have HCo' := Lib.hid (fun (W : World) (hS : ToolC w.heap.size c a k W ∧ Below w1.heap.size w1 W) => (show Calls Try.prog fn #[.int .i64 ((c.chs.length : Int) + 1)] W (fun e w' => ∃ v P, e = .returned v ∧ OrdsO w' w.heap.size v P ∧ P.map (·.2) = O ∧ Below W.heap.size W w') from (HCo.out W).mono fun e w' ⟨v, P, h1, h2, h3, h4⟩ => ⟨v, P, h1, h2.out.mono (Nat.le_trans B1.out.size hS.2.size), h3, h4.out⟩))
    have hfd := fld_rob fn f2 f3 f4
    have HKS := Lib.hid (fun (v : World) (hb : Below w1.heap.size w1 v) => show ToolC w.heap.size c a k v ∧ Below w1.heap.size w1 v from ⟨toolC_of (box_below HT1.out hb), hb⟩)
    have HKn := Lib.hid (fun (v : World) (hb : ToolC w.heap.size c a k v ∧ Below w1.heap.size w1 v) (v' : World) (h2 : Below v.heap.size v v') => HKS.out v' (below_step hb.2 h2))
    go_region_held3 (fun v => ToolC w.heap.size c a k v ∧ Below w1.heap.size w1 v) (first | exact HKS.out _ (Below.refl _ _).drew | exact HKn.out _ (by assumption) _ hb4)
      (first | (go_at_call 34; refine (HRo'.out _).mono ?_; rintro e w4 ⟨rfl, hb4⟩) | (refine (HCo'.out _ (by assumption)).mono ?_; rintro e w4 ⟨v4, P4, rfl, hp4, hq4, hb4⟩))
    all_goals
      go_wp2_with fail
      go_ret
      exact ⟨_, P4, rfl, Lib.hid hp4, hq4, Lib.hid (below_step B1.out (And.right (by assumption)))⟩
end Go.Proofs.Ytiolmcnngpaapaa
