/-
  ClusterOptimal.
-/
import Derived.Test.YticeabbfmjgdbaaTwoW
namespace Go.Proofs.Yticeabbfmjgdbaa
open Go.RowKit Go.Shelf Cl
open Cy (Arc)

/-- No order has starts with a period from 1 to h. -/
def NoTo (c : Tool) (h : Int) : Prop := (0 ≤ h ∧ h ≤ 1000000) ∧ ∀ o ∈ ordersT c, ∀ r, 1 ≤ r → r ≤ h → feasO c o r = false
theorem tl_is (c : Tool) (a : Option Addr) (k : Nat) : tlV c c.blades a k = toolV c a k := rfl
set_option maxRecDepth 100000 in
set_option maxHeartbeats 4000000 in
theorem opt_law (x0 x1 x2 x3 x4 : Int) (xa : Option Addr) (xc : Nat) (X : List (List Int)) (W : World) (h0 : Fits x0) (h1 : Fits x1) (h2 : Fits x2) (h3 : Fits x3) (h4 : Fits x4) (hX : ArrsA 2 W xa xc X) :
    Calls Try.prog 5 #[fiveV x0 x1 x2 x3 x4, .slice xa X.length xc] W fun e w' => e = .returned (.bool true) ∧ Below W.heap.size W w' := by
  have hv0 := mkT_valid x0 x1 x2 x3 x4 X
  have HMk := Lib.hid (fun (w : World) (h : Below W.heap.size W w) => rMake_any x0 x1 x2 x3 x4 h0 h1 h2 h3 h4 X xa xc w (hX.below h))
  unfold MakeP at HMk
  generalize mkT x0 x1 x2 x3 x4 X = c at *
  have HV := Lib.hid hv0
  have HSn := Lib.hid sane13_any
  have HX := Lib.hid (heap_alloc_new W (fiveObj x0 x1 x2 x3 x4))
  have HB := Lib.hid (below_new W (fiveObj x0 x1 x2 x3 x4))
  have HOr := Lib.hid (fun (w : World) (a : Option Addr) (k : Nat) (h : ChA w a k c.chs) => (show Calls Try.prog 14 #[tlV c c.blades a k] w (OrdsR w (ordersT c)) from cOrdersR_any c a k w h))
  have HBe := Lib.hid (fun (w : World) (a : Option Addr) (k : Nat) (h : ChA w a k c.chs) => (show Calls Try.prog 22 #[tlV c c.blades a k] w (BestP c w) from cBest_any c a k w h))
  have HArc := Lib.hid (fun (o : List Int) (ho : o ∈ ordersT c) (w : World) (a oa : Option Addr) (k oc : Nat) (h : ChA w a k c.chs) (hO : IntsA w oa oc o) => (show Calls Try.prog 19 #[tlV c c.blades a k, .slice oa o.length oc] w fun e w' => ∃ x y, e = .returned (.tuple #[.slice x (arcsC c o).length y, .int .i64 0]) ∧ ArcA w' x y (arcsC c o) ∧ (∀ z, x = some z → z.block < w'.heap.size) ∧ Below w.heap.size w w' from
    (cArcs_any c o a oa k oc w h hO).mono fun e w' ⟨x, y, g1, g2, g3, g4⟩ => by
      rw [show arcsR c o = arcsC c o by unfold arcsR; rw [if_pos ho], show errR c o = 0 by unfold errR; rw [if_pos ho]] at g1
      rw [show arcsR c o = arcsC c o by unfold arcsR; rw [if_pos ho]] at g2
      exact ⟨x, y, g1, g2, fun z hz => (g3 z hz).2, g4⟩))
  have HOl := Lib.hid (orders_some hv0)
  have HOl2 := Lib.hid (orders_len (c := c))
  clear h0 h1 h2 h3 h4 hX hv0
  go_enter Try.func5, Try.ntmps5
  go_wp2_with fail
  refine (HSn.out _).mono ?_
  rintro _ w1 ⟨rfl, b1⟩
  have HX1 := Lib.hid (box_below HX.out b1); have B1 := Lib.hid (below_step HB.out b1)
  have e0 : w1.cell? ⟨W.heap.size, 0, none⟩ = some (.int .i64 x0) := box_cell HX1.out 0 _ rfl
  have e1 : w1.cell? ⟨W.heap.size, 1, none⟩ = some (.int .i64 x1) := box_cell HX1.out 1 _ rfl
  have e2 : w1.cell? ⟨W.heap.size, 2, none⟩ = some (.int .i64 x2) := box_cell HX1.out 2 _ rfl
  have e3 : w1.cell? ⟨W.heap.size, 3, none⟩ = some (.int .i64 x3) := box_cell HX1.out 3 _ rfl
  have e4 : w1.cell? ⟨W.heap.size, 4, none⟩ = some (.int .i64 x4) := box_cell HX1.out 4 _ rfl
  have HM1 := Lib.hid (HMk.out w1 B1.out)
  clear b1 HX HB
  go_wp2_with fail
  refine HM1.out.mono ?_
  rintro _ w2 ⟨a, k, rfl, ha, b2⟩
  have B2 := Lib.hid (below_step B1.out b2); have A2 := Lib.hid ha
  clear ha b2 B1 HX1 e0 e1 e2 e3 e4 HMk HM1 HSn
  go_upto_region 3 with (fail)
  have T3 := Lib.hid (heap_alloc_new w2 (tlObj c c.blades a k))
  have hb3 := below_new w2 (tlObj c c.blades a k)
  have B3 := Lib.hid (below_step B2.out hb3); have A3 := Lib.hid (A2.out.below hb3)
  generalize w2.alloc (tlObj c c.blades a k) = w3 at *
  clear hb3 B2 A2
  generalize w2.heap.size = b1 at *
  obtain ⟨t0, t1, t2, t3, t4⟩ := tl_cells T3.out
  have HB3 := Lib.hid (HBe.out w3 a k A3.out)
  unfold BestP at HB3
  go_wp2_with fail
  refine HB3.out.mono ?_
  rintro _ w4 ⟨f, sch, oa, sa, qa, oc, sc, qc, rfl, k1, k2, k3, b4, hno, hyes⟩
  have hbn := below_step b4 (below_new w4 (schObj sch oa sa qa oc sc qc))
  have B5 := Lib.hid (below_step B3.out hbn); have T5 := Lib.hid (box_below T3.out hbn); have A5 := Lib.hid (A3.out.below hbn)
  have S5 := Lib.hid (show ScAt w4.heap.size sch oa sa qa oc sc qc (w4.alloc (schObj sch oa sa qa oc sc qc)) from ⟨heap_alloc_new _ _, k1.below (below_new _ _), k2.below (below_new _ _), k3.below (below_new _ _)⟩)
  clear b4 hbn k1 k2 k3 t0 t1 t2 t3 t4 HB3 T3 A3 B3 HBe
  cases f with
  | true =>
    obtain ⟨p, o, hbest, hs⟩ := hyes rfl
    have hsp : sch.p = p := by rw [hs]; rfl
    have hpb := hbest.bd
    have HNo := Lib.hid (show NoTo c (p - 1) from ⟨by omega, fun o' ho' r r1 r2 => hbest.low o' ho' r r1 (by omega)⟩)
    have hck : checkS c sch = true := by rw [hs]; exact check_best hbest
    have HCk := Lib.hid (fun (w : World) (h : ChA w a k c.chs) (hS : ScAt w4.heap.size sch oa sa qa oc sc qc w) => (show Calls Try.prog 26 #[tlV c c.blades a k, schV sch oa sa qa oc sc qc] w fun e w' => e = .returned (.bool true) ∧ Below w.heap.size w w' by
      have := cCheck_any c sch (by rw [hsp]; unfold Fits; omega) a oa sa qa k oc sc qc w h hS.ro hS.rs hS.rq
      rw [hck] at this; exact this))
    obtain ⟨hi, hhi⟩ : ∃ z, z = p - 1 := ⟨_, rfl⟩
    rw [← hhi] at HNo
    have hd : IntKind.i64.wrap (sch.p - 1) = hi := by rw [hsp, hhi]; exact IntWalk.i64_in _ (by omega)
    clear hno hyes hbest hs hsp hpb hck hhi
    go_upto_region 6 with (fail)
    generalize w4.alloc (schObj sch oa sa qa oc sc qc) = w5 at *
    generalize w4.heap.size = b2 at *
    have HC5 := Lib.hid (HCk.out w5 A5.out S5.out)
    obtain ⟨t0, t1, t2, t3, t4⟩ := tl_cells T5.out
    obtain ⟨s0, s1, s2, s3⟩ := schC_of S5.out.box
    go_wp2_with fail
    refine HC5.out.mono ?_
    rintro _ w6 ⟨rfl, b6⟩
    have B6 := Lib.hid (below_step B5.out b6); have T6 := Lib.hid (box_below T5.out b6); have A6 := Lib.hid (A5.out.below b6)
    have q0 : w6.cell? ⟨b2, 0, none⟩ = some (.int .i64 sch.p) := cell_below b6 s0
    clear b6 T5 A5 B5 S5 t0 t1 t2 t3 t4 s0 s1 s2 s3 HC5 HCk
    go_upto_region 9 with (fail)
    clear q0 hd
    have HO6 := Lib.hid (HOr.out w6 a k A6.out)
    unfold OrdsR at HO6
    obtain ⟨t0, t1, t2, t3, t4⟩ := tl_cells T6.out
    go_wp2_with fail
    refine HO6.out.mono ?_
    rintro _ w7 ⟨x, y, rfl, hq, -, b7⟩
    have HQ := Lib.hid hq.out
    have B7 := Lib.hid (below_step B6.out b7.out); have T7 := Lib.hid (box_below T6.out b7.out); have A7 := Lib.hid (A6.out.below b7.out)
    have hol := HOl.out
    have hol2 := HOl2.out
    clear hq b7 t0 t1 t2 t3 t4 HO6 T6 A6 B6 HOr
    go_wp2_with fail
    go_loopw [11] (fun iv wr => ∃ i : Nat, i ≤ (ordersT c).length ∧ iv = .int .i64 (i : Int) ∧ Hid (Below w7.heap.size w7 wr)) (fun iv _ => (ordersT c).length - (intOf iv).toNat)
    case atStart => exact ⟨0, Nat.zero_le _, rfl, Lib.hid (Below.refl _ _)⟩
    case round =>
      obtain ⟨i, hi9, rfl, HG⟩ := hrel
      by_cases hlt : i < (ordersT c).length
      · obtain ⟨b, off, r, hxb, hb, hc, -, hrow⟩ := (HQ.out.below HG.out).2.2 i hlt
        subst hxb
        have HM := Lib.hid (List.getElem_mem hlt)
        generalize (ordersT c)[i] = o' at *
        have hol3 := ordLen_of HM.out
        have HRw := Lib.hid (hrow.ints (by omega))
        have T8 := Lib.hid (box_below T7.out HG.out); have A8 := Lib.hid (A7.out.below HG.out)
        have HA8 := Lib.hid (show ∀ v, v.heap = wr.heap → _ from fun v hv => HArc.out o' HM.out v a (some ⟨r, 0, none⟩) k o'.length (A8.out.of_heap hv) (HRw.out.of_heap hv))
        have HVd := Lib.hid (arcsC_valid (mem_valid HM.out).1 (mem_valid HM.out).2)
        have HSm := Lib.hid (fun (x : Option Addr) (y : Nat) (v : World) (hA : ArcA v x y (arcsC c o')) (h4 : ∀ z, x = some z → z.block < v.heap.size) => Smallest_any (o'.length : Int) 1 hi (by unfold Fits; omega) (arcsC c o') x y v hA h4)
        unfold SmPost at HSm
        rw [HVd.out, per_of (p := 1) (by omega), per_of (p := hi) (by have := HNo.out.1; omega), Int.toNat_natCast] at HSm
        have HNi := Lib.hid (fun q (q1 : 1 ≤ q) (q2 : q ≤ hi) => (show Cy.feas (arcsC c o') o'.length q = false from HNo.out.2 o' HM.out q q1 q2))
        have i0 : (0 : Int) ≤ (i : Int) := by omega
        have i1 : (i : Int) < ((ordersT c).length : Int) := by omega
        have d1 : IntKind.i64.wrap ((i : Int) + 1) = (i : Int) + 1 := IntWalk.i64_in _ (by omega)
        have HK := Lib.hid (show ∀ v, Below wr.heap.size wr v → v.cell? ⟨b1, 0, none⟩ = some (.slice a c.chs.length k) ∧ v.cell? ⟨b1, 1, none⟩ = some (.int .i64 c.pick) ∧ v.cell? ⟨b1, 2, none⟩ = some (.int .i64 c.place) ∧ v.cell? ⟨b1, 3, none⟩ = some (.int .i64 c.travel) ∧ v.cell? ⟨b1, 4, none⟩ = some (.int .i64 c.blades) ∧ v.cell? ⟨b, off + i, none⟩ = some (rowV r o'.length) from fun v hv => by
          obtain ⟨u0, u1, u2, u3, u4⟩ := tl_cells (box_below T8.out hv)
          exact ⟨u0, u1, u2, u3, u4, cell_below hv hc⟩)
        have hcc := hc
        generalize (arcsC c o') = L at *
        clear hrow
        go_wp2_with fail
        go_region_held3 (fun v => v.cell? ⟨b1, 0, none⟩ = some (.slice a c.chs.length k) ∧ v.cell? ⟨b1, 1, none⟩ = some (.int .i64 c.pick) ∧ v.cell? ⟨b1, 2, none⟩ = some (.int .i64 c.place) ∧ v.cell? ⟨b1, 3, none⟩ = some (.int .i64 c.travel) ∧ v.cell? ⟨b1, 4, none⟩ = some (.int .i64 c.blades) ∧ v.cell? ⟨b, off + i, none⟩ = some (rowV r o'.length))
          (first | exact HK.out _ (Below.refl _ _).drew | exact HK.out _ ⟨hb9.os, hb9.tape, hb9.output, hb9.size, hb9.block⟩)
          ((go_at_call 19; refine (HA8.out _ (by rfl)).mono ?_; rintro _ w9 ⟨x9, y9, rfl, hA9, h49, hb9⟩))
        all_goals
          have hbz : Below wr.heap.size wr w9 := ⟨hb9.os, hb9.tape, hb9.output, hb9.size, hb9.block⟩
          have HG9 := Lib.hid (below_step HG.out hbz)
          have hc9 := (HK.out w9 hbz).2.2.2.2.2
          have HS9 := Lib.hid (HSm.out x9 y9 w9 hA9 h49)
          clear hA9 h49 hb9 hbz HA8 HK hcc hc HRw
          go_wp2_with fail
          refine HS9.out.mono ?_
          rintro _ w10 ⟨q, f10, rfl, b10, -, hsp⟩
          have hsp := hsp (by trivial)
          have HG10 := Lib.hid (below_step HG9.out b10)
          cases f10 with
          | true =>
            obtain ⟨g1, g2, g3, -⟩ := hsp.yes rfl
            have := HNi.out q g1 g2
            rw [g3] at this; cases this
          | false =>
            clear hsp b10 HS9
            by_cases hh : 1 ≤ hi
            · go_wp2_with fail
              go_roundw
              case rel => exact ⟨i + 1, by omega, by go_num, HG10⟩
              case measure => simp [intOf]; omega
            · go_wp2_with fail
              go_roundw
              case rel => exact ⟨i + 1, by omega, by go_num, HG10⟩
              case measure => simp [intOf]; omega
      · have i1 : ¬ (i : Int) < ((ordersT c).length : Int) := by omega
        have i2 : (0 : Int) < ((ordersT c).length : Int) := by omega
        have B9 := Lib.hid (below_step B7.out HG.out)
        go_wp2_with fail
        go_ret
        exact ⟨rfl, B9.out⟩
  | false =>
    have HNo := Lib.hid (show NoTo c 1000000 from ⟨by omega, (hno rfl).1⟩)
    clear hno hyes S5
    go_upto_region 9 with (fail)
    generalize w4.alloc (schObj sch oa sa qa oc sc qc) = w6 at *
    have T6 := T5; have A6 := A5; have B6 := B5
    clear T5 A5 B5
    obtain ⟨hi, hhi⟩ : ∃ z : Int, z = 1000000 := ⟨_, rfl⟩
    rw [← hhi] at HNo ⊢
    clear hhi
    have HO6 := Lib.hid (HOr.out w6 a k A6.out)
    unfold OrdsR at HO6
    obtain ⟨t0, t1, t2, t3, t4⟩ := tl_cells T6.out
    go_wp2_with fail
    refine HO6.out.mono ?_
    rintro _ w7 ⟨x, y, rfl, hq, -, b7⟩
    have HQ := Lib.hid hq.out
    have B7 := Lib.hid (below_step B6.out b7.out); have T7 := Lib.hid (box_below T6.out b7.out); have A7 := Lib.hid (A6.out.below b7.out)
    have hol := HOl.out
    have hol2 := HOl2.out
    clear hq b7 t0 t1 t2 t3 t4 HO6 T6 A6 B6 HOr
    go_wp2_with fail
    go_loopw [11] (fun iv wr => ∃ i : Nat, i ≤ (ordersT c).length ∧ iv = .int .i64 (i : Int) ∧ Hid (Below w7.heap.size w7 wr)) (fun iv _ => (ordersT c).length - (intOf iv).toNat)
    case atStart => exact ⟨0, Nat.zero_le _, rfl, Lib.hid (Below.refl _ _)⟩
    case round =>
      obtain ⟨i, hi9, rfl, HG⟩ := hrel
      by_cases hlt : i < (ordersT c).length
      · obtain ⟨b, off, r, hxb, hb, hc, -, hrow⟩ := (HQ.out.below HG.out).2.2 i hlt
        subst hxb
        have HM := Lib.hid (List.getElem_mem hlt)
        generalize (ordersT c)[i] = o' at *
        have hol3 := ordLen_of HM.out
        have HRw := Lib.hid (hrow.ints (by omega))
        have T8 := Lib.hid (box_below T7.out HG.out); have A8 := Lib.hid (A7.out.below HG.out)
        have HA8 := Lib.hid (show ∀ v, v.heap = wr.heap → _ from fun v hv => HArc.out o' HM.out v a (some ⟨r, 0, none⟩) k o'.length (A8.out.of_heap hv) (HRw.out.of_heap hv))
        have HVd := Lib.hid (arcsC_valid (mem_valid HM.out).1 (mem_valid HM.out).2)
        have HSm := Lib.hid (fun (x : Option Addr) (y : Nat) (v : World) (hA : ArcA v x y (arcsC c o')) (h4 : ∀ z, x = some z → z.block < v.heap.size) => Smallest_any (o'.length : Int) 1 hi (by unfold Fits; omega) (arcsC c o') x y v hA h4)
        unfold SmPost at HSm
        rw [HVd.out, per_of (p := 1) (by omega), per_of (p := hi) (by have := HNo.out.1; omega), Int.toNat_natCast] at HSm
        have HNi := Lib.hid (fun q (q1 : 1 ≤ q) (q2 : q ≤ hi) => (show Cy.feas (arcsC c o') o'.length q = false from HNo.out.2 o' HM.out q q1 q2))
        have i0 : (0 : Int) ≤ (i : Int) := by omega
        have i1 : (i : Int) < ((ordersT c).length : Int) := by omega
        have d1 : IntKind.i64.wrap ((i : Int) + 1) = (i : Int) + 1 := IntWalk.i64_in _ (by omega)
        have HK := Lib.hid (show ∀ v, Below wr.heap.size wr v → v.cell? ⟨b1, 0, none⟩ = some (.slice a c.chs.length k) ∧ v.cell? ⟨b1, 1, none⟩ = some (.int .i64 c.pick) ∧ v.cell? ⟨b1, 2, none⟩ = some (.int .i64 c.place) ∧ v.cell? ⟨b1, 3, none⟩ = some (.int .i64 c.travel) ∧ v.cell? ⟨b1, 4, none⟩ = some (.int .i64 c.blades) ∧ v.cell? ⟨b, off + i, none⟩ = some (rowV r o'.length) from fun v hv => by
          obtain ⟨u0, u1, u2, u3, u4⟩ := tl_cells (box_below T8.out hv)
          exact ⟨u0, u1, u2, u3, u4, cell_below hv hc⟩)
        have hcc := hc
        generalize (arcsC c o') = L at *
        clear hrow
        go_wp2_with fail
        go_region_held3 (fun v => v.cell? ⟨b1, 0, none⟩ = some (.slice a c.chs.length k) ∧ v.cell? ⟨b1, 1, none⟩ = some (.int .i64 c.pick) ∧ v.cell? ⟨b1, 2, none⟩ = some (.int .i64 c.place) ∧ v.cell? ⟨b1, 3, none⟩ = some (.int .i64 c.travel) ∧ v.cell? ⟨b1, 4, none⟩ = some (.int .i64 c.blades) ∧ v.cell? ⟨b, off + i, none⟩ = some (rowV r o'.length))
          (first | exact HK.out _ (Below.refl _ _).drew | exact HK.out _ ⟨hb9.os, hb9.tape, hb9.output, hb9.size, hb9.block⟩)
          ((go_at_call 19; refine (HA8.out _ (by rfl)).mono ?_; rintro _ w9 ⟨x9, y9, rfl, hA9, h49, hb9⟩))
        all_goals
          have hbz : Below wr.heap.size wr w9 := ⟨hb9.os, hb9.tape, hb9.output, hb9.size, hb9.block⟩
          have HG9 := Lib.hid (below_step HG.out hbz)
          have hc9 := (HK.out w9 hbz).2.2.2.2.2
          have HS9 := Lib.hid (HSm.out x9 y9 w9 hA9 h49)
          clear hA9 h49 hb9 hbz HA8 HK hcc hc HRw
          go_wp2_with fail
          refine HS9.out.mono ?_
          rintro _ w10 ⟨q, f10, rfl, b10, -, hsp⟩
          have hsp := hsp (by trivial)
          have HG10 := Lib.hid (below_step HG9.out b10)
          cases f10 with
          | true =>
            obtain ⟨g1, g2, g3, -⟩ := hsp.yes rfl
            have := HNi.out q g1 g2
            rw [g3] at this; cases this
          | false =>
            clear hsp b10 HS9
            by_cases hh : 1 ≤ hi
            · go_wp2_with fail
              go_roundw
              case rel => exact ⟨i + 1, by omega, by go_num, HG10⟩
              case measure => simp [intOf]; omega
            · go_wp2_with fail
              go_roundw
              case rel => exact ⟨i + 1, by omega, by go_num, HG10⟩
              case measure => simp [intOf]; omega
      · have i1 : ¬ (i : Int) < ((ordersT c).length : Int) := by omega
        have i2 : (0 : Int) < ((ordersT c).length : Int) := by omega
        have B9 := Lib.hid (below_step B7.out HG.out)
        go_wp2_with fail
        go_ret
        exact ⟨rfl, B9.out⟩
end Go.Proofs.Yticeabbfmjgdbaa
