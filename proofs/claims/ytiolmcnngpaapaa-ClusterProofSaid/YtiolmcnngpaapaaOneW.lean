/-
  ClusterOne.
-/
import Derived.Test.YtiolmcnngpaapaaSn2
import Derived.Test.YtiolmcnngpaapaaMa
namespace Go.Proofs.Ytiolmcnngpaapaa
open Go.RowKit Go.Shelf Cl
open Cy (Arc)

/-- A tool with another number of blades. -/
def setB (c : Tool) (b : Int) : Tool := ⟨c.chs, c.pick, c.place, c.travel, b⟩
theorem setB_valid {c : Tool} (h : validT c = true) {b : Int} (hb : b = 1 ∨ b = 2) : validT (setB c b) = true := by
  obtain ⟨h1, h2, h3, h4, h5, h6⟩ := validT_iff.1 h
  exact validT_iff.2 ⟨h1, h2, h3, hb, h5, h6⟩
/-- The best schedule where one order has starts just with the periods from P on. -/
theorem best_from {c : Tool} {P : Int} {o : List Int} (ho : ordersT c = [o]) (hP : 1 ≤ P ∧ P ≤ 1000000) (hf : feasO c o P = true) (hlow : ∀ p, 1 ≤ p → p ≤ 1000000 → feasO c o p = true → P ≤ p) {f : Bool} {s : Sch} (h1 : f = false → NoBest c ∧ s = ⟨0, [], [], []⟩) (h2 : f = true → ∃ p o, BestIs c p o ∧ s = provedS c p o) :
    f = true ∧ s = provedS c P o ∧ BestIs c P o := by
  obtain ⟨rfl, q, o', h3, h4, h5⟩ := best_or h1 h2 (by rw [ho]; simp) hP hf
  have hm := h3.mem
  rw [ho, List.mem_singleton] at hm
  subst hm
  have := hlow q h3.bd.1 h3.bd.2 h3.yes
  obtain rfl : q = P := by omega
  exact ⟨rfl, h4, h3⟩
theorem bestFrom_any {c : Tool} {P : Int} {o : List Int} (ho : ordersT c = [o]) (hP : 1 ≤ P ∧ P ≤ 1000000) (hf : feasO c o P = true) (hlow : ∀ p, 1 ≤ p → p ≤ 1000000 → feasO c o p = true → P ≤ p) (a : Option Addr) (k : Nat) (w : World) (h : ChA w a k c.chs) :
    Calls Try.prog 22 #[toolV c a k] w (SchE w (provedS c P o) 0) ∧ checkS c (provedS c P o) = true := by
  refine ⟨(cBest_any c a k w h).mono fun e w' ⟨f, s, oa, sa, qa, oc, sc, qc, he, h1, h2, h3, hb, h4, h5⟩ => ?_, ?_⟩
  · obtain ⟨rfl, rfl, -⟩ := best_from ho hP hf hlow h4 h5
    exact ⟨oa, sa, qa, oc, sc, qc, he, h1, h2, h3, hb⟩
  · refine check_proved (by rw [ho]; simp) hP hf (fun h1 => ?_)
    rw [Bool.eq_false_iff]
    intro h2
    have := hlow (P - 1) (by omega) (by omega) h2
    omega
set_option maxRecDepth 100000 in
set_option maxHeartbeats 4000000 in
theorem one_any (x0 x1 x2 x3 x4 y0 y1 : Int) (W : World) (h0 : Fits x0) (h1 : Fits x1) (h2 : Fits x2) (h3 : Fits x3) (h4 : Fits x4) (g0 : Fits y0) (g1 : Fits y1) :
    Calls Try.prog 9 #[fiveV x0 x1 x2 x3 x4, .agg #[.int .i64 y0, .int .i64 y1]] W fun e w' => e = .returned (.bool true) ∧ Below W.heap.size W w' := by
  have hv0 := mkT_valid x0 x1 x2 x3 x4 [[y0, y1]]
  have hch : (mkT x0 x1 x2 x3 x4 [[y0, y1]]).chs = [⟨pickZ y0 60, pickZ y1 40⟩] := rfl
  have hMk := fun (W : World) (a : Option Addr) (k : Nat) (h : ArrsA 2 W a k [[y0, y1]]) => rMake_any x0 x1 x2 x3 x4 h0 h1 h2 h3 h4 [[y0, y1]] a k W h
  have hbd := mkT_valid x0 x1 x2 x3 x4 [[y0, y1]]
  have hpp := (show 1 ≤ (mkT x0 x1 x2 x3 x4 [[y0, y1]]).pick ∧ 1 ≤ (mkT x0 x1 x2 x3 x4 [[y0, y1]]).place from ⟨by have := pickZ_bd (c := x0) (n := 5) (by omega); simp only [mkT]; omega, by have := pickZ_bd (c := x1) (n := 5) (by omega); simp only [mkT]; omega⟩)
  generalize mkT x0 x1 x2 x3 x4 [[y0, y1]] = c at *
  generalize pickZ y0 60 = T at *
  generalize pickZ y1 40 = S at *
  obtain ⟨chs, p, q, t, bl⟩ := c
  simp only at hch hpp
  subst hch
  have hvb := validT_iff.1 hv0
  simp only at hvb
  have hTS := hvb.2.2.2.2.2 ⟨T, S⟩ (by simp)
  obtain ⟨ho, hfe⟩ := one_feas (c := setB ⟨[⟨T, S⟩], p, q, t, bl⟩ 1) (setB_valid hv0 (.inl rfl)) rfl T S rfl (p := 2 * (p + t + q) + T + t) (by simp only at hTS; omega)
  have hBe := fun (W : World) (a : Option Addr) (k : Nat) (h : ChA W a k [⟨T, S⟩]) => bestFrom_any (c := setB ⟨[⟨T, S⟩], p, q, t, bl⟩ 1) (P := 2 * (p + t + q) + T + t) (o := [0, 1]) ho (by simp only at hTS; omega) (hfe.2 (by simp only [setB]; omega)) (fun p' q1 q2 hy => by
    have := (one_feas (c := setB ⟨[⟨T, S⟩], p, q, t, bl⟩ 1) (setB_valid hv0 (.inl rfl)) rfl T S rfl (p := p') (by omega)).2.1 hy
    simp only [setB] at this; omega) a k W h
  have HMk := Lib.hid hMk
  unfold MakeP at HMk
  simp only [List.length_cons, List.length_nil] at HMk
  have HBe := Lib.hid (fun (W : World) (a : Option Addr) (k : Nat) (h : ChA W a k [⟨T, S⟩]) => (show Calls Try.prog 22 #[.agg #[.slice a 1 k, .int .i64 p, .int .i64 q, .int .i64 t, .int .i64 1]] W (SchE W (provedS (setB ⟨[⟨T, S⟩], p, q, t, bl⟩ 1) (2 * (p + t + q) + T + t) [0, 1]) 0) from (hBe W a k h).1))
  unfold SchE at HBe
  have hck := fun (W : World) (a : Option Addr) (k : Nat) (h : ChA W a k [⟨T, S⟩]) => (hBe W a k h).2
  obtain ⟨sch, hs⟩ : ∃ s, s = provedS (setB ⟨[⟨T, S⟩], p, q, t, bl⟩ 1) (2 * (p + t + q) + T + t) [0, 1] := ⟨_, rfl⟩
  rw [← hs] at HBe
  have hsp : sch.p = 2 * (p + t + q) + T + t := by rw [hs]; rfl
  have hso : sch.o.length = 2 := by rw [hs]; rfl
  have HCk := Lib.hid (fun (W : World) (a oa sa qa : Option Addr) (k oc sc qc : Nat) (h : ChA W a k [⟨T, S⟩]) (ho : IntsA W oa oc sch.o) (hss : IntsA W sa sc sch.s) (hq : IntsA W qa qc sch.q) =>
    (show Calls Try.prog 26 #[.agg #[.slice a 1 k, .int .i64 p, .int .i64 q, .int .i64 t, .int .i64 1], schV sch oa sa qa oc sc qc] W fun e w' => e = .returned (.bool true) ∧ Below W.heap.size W w' by
      have := cCheck_any (setB ⟨[⟨T, S⟩], p, q, t, bl⟩ 1) sch (by rw [hsp]; unfold Fits; simp only at hTS; omega) a oa sa qa k oc sc qc W h ho hss hq
      rw [show checkS (setB ⟨[⟨T, S⟩], p, q, t, bl⟩ 1) sch = true by rw [hs]; exact hck W a k h] at this; exact this))
  have HSn := Lib.hid sane13_any
  have d1 : IntKind.i64.wrap (p + t) = p + t := IntWalk.i64_in _ (by omega)
  have d2 : IntKind.i64.wrap (p + t + q) = p + t + q := IntWalk.i64_in _ (by omega)
  have d3 : IntKind.i64.wrap (2 * (p + t + q)) = 2 * (p + t + q) := IntWalk.i64_in _ (by omega)
  have d4 : IntKind.i64.wrap (2 * (p + t + q) + T) = 2 * (p + t + q) + T := IntWalk.i64_in _ (by simp only at hTS; omega)
  have d5 : IntKind.i64.wrap (2 * (p + t + q) + T + t) = 2 * (p + t + q) + T + t := IntWalk.i64_in _ (by simp only at hTS; omega)
  have HX := Lib.hid (show ((W.alloc (fiveObj x0 x1 x2 x3 x4)).alloc (.cells #[.int .i64 y0, .int .i64 y1] 68)).heap[W.heap.size]? = some (fiveObj x0 x1 x2 x3 x4) from box_below (heap_alloc_new W _) (below_new _ _))
  have HY := Lib.hid (show ((W.alloc (fiveObj x0 x1 x2 x3 x4)).alloc (.cells #[.int .i64 y0, .int .i64 y1] 68)).heap[W.heap.size + 1]? = some (.cells #[.int .i64 y0, .int .i64 y1] 68) from by
    have := heap_alloc_new (W.alloc (fiveObj x0 x1 x2 x3 x4)) (.cells #[.int .i64 y0, .int .i64 y1] 68)
    rw [show (W.alloc (fiveObj x0 x1 x2 x3 x4)).heap.size = W.heap.size + 1 by simp] at this; exact this)
  have HB := Lib.hid (below_step (below_new W (fiveObj x0 x1 x2 x3 x4)) (below_new (W.alloc (fiveObj x0 x1 x2 x3 x4)) (.cells #[.int .i64 y0, .int .i64 y1] 68)))
  have HArr := Lib.hid (show ∀ w : World, ArrsA 2 (w.alloc (.cells #[.int .i64 y0, .int .i64 y1] 68)) (some ⟨w.heap.size, 0, none⟩) 1 [[y0, y1]] from fun w => by
    refine ⟨Nat.le_refl _, by decide, fun y hy => by rw [List.mem_singleton] at hy; subst hy; exact ⟨rfl, fun x hx => by simp at hx; rcases hx with rfl | rfl; exact g0; exact g1⟩, fun i hi => ⟨w.heap.size, 0, rfl, by simp, fun j v hv => ?_⟩⟩
    have hi' : i < 1 := hi
    obtain rfl : i = 0 := by omega
    have hj : j < 2 := (List.getElem?_eq_some_iff.1 hv).1
    obtain rfl | rfl : j = 0 ∨ j = 1 := by omega
    · injection hv with hv; subst hv; exact box_cell (heap_alloc_new w _) 0 _ rfl
    · injection hv with hv; subst hv; exact box_cell (heap_alloc_new w _) 1 _ rfl)
  have qs : (sch.p == 2 * (p + t + q) + T + t) = true := by simp [hsp]
  have qo : ((sch.o.length : Int) == 2) = true := by simp [hso]
  clear hsp hso hMk hbd hfe ho hBe hck hs hvb hv0 hpp h0 h1 h2 h3 h4 g0 g1
  go_enter Try.func9, Try.ntmps9
  go_wp2_with fail
  refine (HSn.out _).mono ?_
  rintro _ w1 ⟨rfl, b1⟩
  have HX1 := Lib.hid (box_below HX.out b1); have HY1 := Lib.hid (box_below HY.out b1); have B1 := Lib.hid (below_step HB.out b1)
  have e0 : w1.cell? ⟨W.heap.size, 0, none⟩ = some (.int .i64 x0) := box_cell HX1.out 0 _ rfl
  have e1 : w1.cell? ⟨W.heap.size, 1, none⟩ = some (.int .i64 x1) := box_cell HX1.out 1 _ rfl
  have e2 : w1.cell? ⟨W.heap.size, 2, none⟩ = some (.int .i64 x2) := box_cell HX1.out 2 _ rfl
  have e3 : w1.cell? ⟨W.heap.size, 3, none⟩ = some (.int .i64 x3) := box_cell HX1.out 3 _ rfl
  have e4 : w1.cell? ⟨W.heap.size, 4, none⟩ = some (.int .i64 x4) := box_cell HX1.out 4 _ rfl
  have f0 : w1.cell? ⟨W.heap.size + 1, 0, none⟩ = some (.int .i64 y0) := box_cell HY1.out 0 _ rfl
  have f1 : w1.cell? ⟨W.heap.size + 1, 1, none⟩ = some (.int .i64 y1) := box_cell HY1.out 1 _ rfl
  have HM1 := Lib.hid (HMk.out _ (some ⟨w1.heap.size, 0, none⟩) 1 (HArr.out w1))
  clear b1 HX HY HB
  go_wp2_with fail
  refine HM1.out.mono ?_
  rintro _ w2 ⟨a, k, rfl, ha, b2⟩
  have hbn := below_step (below_new w1 (.cells #[.int .i64 y0, .int .i64 y1] 68)) b2
  have B2 := Lib.hid (below_step B1.out hbn); have A2 := Lib.hid ha
  clear ha b2 hbn B1 HX1 HY1 e0 e1 e2 e3 e4 f0 f1 HMk HM1 HArr HSn
  go_upto_region 4 with (fail)
  have T3 := Lib.hid (heap_alloc_new w2 (.cells #[.slice a 1 k, .int .i64 p, .int .i64 q, .int .i64 t, .int .i64 1] 24))
  have hb3 := below_new w2 (.cells #[.slice a 1 k, .int .i64 p, .int .i64 q, .int .i64 t, .int .i64 1] 24)
  have B3 := Lib.hid (below_step B2.out hb3); have A3 := Lib.hid (A2.out.below hb3)
  generalize w2.alloc (.cells #[.slice a 1 k, .int .i64 p, .int .i64 q, .int .i64 t, .int .i64 1] 24) = w3 at *
  clear hb3 B2 A2
  generalize w2.heap.size = b1 at *
  have HB4 := Lib.hid (HBe.out w3 a k A3.out)
  have t0 : w3.cell? ⟨b1, 0, none⟩ = some (.slice a 1 k) := box_cell T3.out 0 _ rfl
  have t1 : w3.cell? ⟨b1, 1, none⟩ = some (.int .i64 p) := box_cell T3.out 1 _ rfl
  have t2 : w3.cell? ⟨b1, 2, none⟩ = some (.int .i64 q) := box_cell T3.out 2 _ rfl
  have t3 : w3.cell? ⟨b1, 3, none⟩ = some (.int .i64 t) := box_cell T3.out 3 _ rfl
  have t4 : w3.cell? ⟨b1, 4, none⟩ = some (.int .i64 1) := box_cell T3.out 4 _ rfl
  go_wp2_with fail
  refine HB4.out.mono ?_
  rintro _ w4 ⟨oa, sa, qa, oc, sc, qc, rfl, i1, i2, i3, b4⟩
  have hbn := below_step b4 (below_new w4 (schObj sch oa sa qa oc sc qc))
  have T5 := Lib.hid (box_below T3.out hbn); have B5 := Lib.hid (below_step B3.out hbn); have A5 := Lib.hid (A3.out.below hbn)
  have S5 := Lib.hid (show ScAt w4.heap.size sch oa sa qa oc sc qc (w4.alloc (schObj sch oa sa qa oc sc qc)) from ⟨heap_alloc_new _ _, i1.below (below_new _ _), i2.below (below_new _ _), i3.below (below_new _ _)⟩)
  clear b4 hbn i1 i2 i3 HB4 HBe T3 B3 A3 t0 t1 t2 t3 t4
  go_upto_region 5 with (fail)
  generalize w4.alloc (schObj sch oa sa qa oc sc qc) = w5 at *
  generalize w4.heap.size = b2 at *
  obtain ⟨ca, off, rfl, hca, hcc⟩ := A5.out.at (by simp)
  obtain ⟨c0, -⟩ := ch_cells (hcc 0 (by simp))
  simp only [Nat.zero_mul, Nat.add_zero, List.getElem_cons_zero] at c0
  have HK := Lib.hid (show ∀ v, Below w5.heap.size w5 v → v.cell? ⟨b1, 0, none⟩ = some (.slice (some ⟨ca, off, none⟩) 1 k) ∧ v.cell? ⟨b1, 1, none⟩ = some (.int .i64 p) ∧ v.cell? ⟨b1, 2, none⟩ = some (.int .i64 q) ∧ v.cell? ⟨b1, 3, none⟩ = some (.int .i64 t) ∧ v.cell? ⟨b1, 4, none⟩ = some (.int .i64 1) ∧
      v.cell? ⟨b2, 0, none⟩ = some (.int .i64 sch.p) ∧ v.cell? ⟨b2, 1, none⟩ = some (.slice oa sch.o.length oc) ∧ v.cell? ⟨b2, 2, none⟩ = some (.slice sa sch.s.length sc) ∧ v.cell? ⟨b2, 3, none⟩ = some (.slice qa sch.q.length qc) ∧ v.cell? ⟨ca, off, none⟩ = some (.int .i64 T) from fun v hv =>
    ⟨box_cell (box_below T5.out hv) 0 _ rfl, box_cell (box_below T5.out hv) 1 _ rfl, box_cell (box_below T5.out hv) 2 _ rfl, box_cell (box_below T5.out hv) 3 _ rfl, box_cell (box_below T5.out hv) 4 _ rfl,
     box_cell (box_below S5.out.box hv) 0 _ rfl, box_cell (box_below S5.out.box hv) 1 _ rfl, box_cell (box_below S5.out.box hv) 2 _ rfl, box_cell (box_below S5.out.box hv) 3 _ rfl, cell_below hv c0⟩)
  obtain ⟨t0, t1, t2, t3, t4, -⟩ := HK.out w5 (Below.refl _ _)
  have HCd := Lib.hid (show ∀ v, v.heap = w5.heap → Calls Try.prog 26 #[.agg #[.slice (some ⟨ca, off, none⟩) 1 k, .int .i64 p, .int .i64 q, .int .i64 t, .int .i64 1], schV sch oa sa qa oc sc qc] v fun e w' => e = .returned (.bool true) ∧ Below v.heap.size v w' from fun v hv =>
    HCk.out v (some ⟨ca, off, none⟩) oa sa qa k oc sc qc (A5.out.of_heap hv) (S5.out.ro.of_heap hv) (S5.out.rs.of_heap hv) (S5.out.rq.of_heap hv))
  clear hcc hTS
  go_wp2_with fail
  go_region_held3 (fun v => v.cell? ⟨b1, 0, none⟩ = some (.slice (some ⟨ca, off, none⟩) 1 k) ∧ v.cell? ⟨b1, 1, none⟩ = some (.int .i64 p) ∧ v.cell? ⟨b1, 2, none⟩ = some (.int .i64 q) ∧ v.cell? ⟨b1, 3, none⟩ = some (.int .i64 t) ∧ v.cell? ⟨b1, 4, none⟩ = some (.int .i64 1) ∧
      v.cell? ⟨b2, 0, none⟩ = some (.int .i64 sch.p) ∧ v.cell? ⟨b2, 1, none⟩ = some (.slice oa sch.o.length oc) ∧ v.cell? ⟨b2, 2, none⟩ = some (.slice sa sch.s.length sc) ∧ v.cell? ⟨b2, 3, none⟩ = some (.slice qa sch.q.length qc) ∧ v.cell? ⟨ca, off, none⟩ = some (.int .i64 T))
    (first | exact HK.out _ (Below.refl _ _).drew | exact HK.out _ ⟨hb9.os, hb9.tape, hb9.output, hb9.size, hb9.block⟩)
    ((go_at_call 26; refine (HCd.out _ (by rfl)).mono ?_; rintro _ w9 ⟨rfl, hb9⟩))
  all_goals
    go_wp2_with fail
    go_ret
    exact ⟨rfl, below_step B5.out ⟨hb9.os, hb9.tape, hb9.output, hb9.size, hb9.block⟩⟩
end Go.Proofs.Ytiolmcnngpaapaa
