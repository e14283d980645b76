/-
  sane: the statements' common examples, walked.
-/
import Derived.Test.YtiolmcnngpaapaaSn
namespace Go.Proofs.Ytiolmcnngpaapaa
open Go.RowKit Go.Shelf Cl
open Cy (Arc)

abbrev litT (b : Int) (a : Option Addr) (k : Nat) : Value := .agg #[.slice a 2 k, .int .i64 1, .int .i64 1, .int .i64 2, .int .i64 b]
abbrev litTO (b : Int) (a : Option Addr) (k : Nat) : Obj := .cells #[.slice a 2 k, .int .i64 1, .int .i64 1, .int .i64 2, .int .i64 b] 24
theorem ord_lit (a : Option Addr) (k : Nat) (w : World) (h : ChA w a k exT.chs) : Calls Try.prog 14 #[litT 1 a k] w fun e w' => ∃ x y, e = .returned (.slice x 2 y) ∧ Below w.heap.size w w' :=
  (cOrdersR_any exT a k w h).mono fun e w' ⟨x, y, h1, _, _, h3⟩ => ⟨x, y, by rw [ex_orders.1] at h1; exact h1, h3.out⟩
abbrev iObj3 (x y z : Int) : Obj := .cells #[.int .i64 x, .int .i64 y, .int .i64 z] 3
abbrev iObj2 (x y : Int) : Obj := .cells #[.int .i64 x, .int .i64 y] 3
theorem lit_i3 (w : World) (x y z : Int) : IntsA (w.alloc (iObj3 x y z)) (some ⟨w.heap.size, 0, none⟩) 3 [x, y, z] := lit_intL w [x, y, z] (by simp)
theorem lit_i2 (w : World) (x y : Int) : IntsA (w.alloc (iObj2 x y)) (some ⟨w.heap.size, 0, none⟩) 2 [x, y] := lit_intL w [x, y] (by simp)
theorem arcs_lit (a : Option Addr) (k : Nat) (w : World) (h : ChA w a k exT.chs) : Calls Try.prog 19 #[litT 1 a k, .slice (some ⟨w.heap.size, 0, none⟩) 3 3] (w.alloc (iObj3 0 2 1)) fun e w' => ∃ x y, e = .returned (.tuple #[.slice x 7 y, .int .i64 0]) ∧ ArcA w' x y exWant ∧ Below w.heap.size w w' :=
  (cArcs_any exT [0, 2, 1] a (some ⟨w.heap.size, 0, none⟩) k 3 _ (h.below (below_new _ _)) (lit_i3 w 0 2 1)).mono fun e w' ⟨x, y, h1, h2, _, h4⟩ => by
    rw [ex_arcs.1, ex_arcs.2.1] at h1
    rw [ex_arcs.1] at h2
    exact ⟨x, y, h1, h2, below_step (below_new _ _) h4⟩
theorem arcs_lit2 (a : Option Addr) (k : Nat) (w : World) (h : ChA w a k exT.chs) : Calls Try.prog 19 #[litT 1 a k, .slice (some ⟨w.heap.size, 0, none⟩) 2 2] (w.alloc (iObj2 0 1)) fun e w' => ∃ v, e = .returned (.tuple #[v, .int .i64 130]) ∧ Below w.heap.size w w' :=
  (cArcs_any exT [0, 1] a (some ⟨w.heap.size, 0, none⟩) k 2 _ (h.below (below_new _ _)) (lit_i2 w 0 1)).mono fun e w' ⟨x, y, h1, _, _, h4⟩ => by
    rw [ex_arcs.2.2] at h1
    exact ⟨_, h1, below_step (below_new _ _) h4⟩
/-- What sane knows of the boxes: the tools, the schedules. -/
structure SnAt (c0 b1 : Nat) (W : World) : Prop where
  ch : ChA W (some ⟨c0, 0, none⟩) 2 exT.chs
  tool : W.heap[b1]? = some (litTO 1 (some ⟨c0, 0, none⟩) 2)
theorem SnAt.below {c0 b1 : Nat} {W W' : World} (h : SnAt c0 b1 W) (hb : Below W.heap.size W W') : SnAt c0 b1 W' := ⟨h.ch.below hb, box_below h.tool hb⟩
structure ScAt (b : Nat) (s : Sch) (oa sa qa : Option Addr) (oc sc qc : Nat) (W : World) : Prop where
  box : W.heap[b]? = some (schObj s oa sa qa oc sc qc)
  ro : IntsA W oa oc s.o
  rs : IntsA W sa sc s.s
  rq : IntsA W qa qc s.q
theorem ScAt.below {b : Nat} {s : Sch} {oa sa qa : Option Addr} {oc sc qc : Nat} {W W' : World} (h : ScAt b s oa sa qa oc sc qc W) (hb : Below W.heap.size W W') : ScAt b s oa sa qa oc sc qc W' := ⟨box_below h.box hb, h.ro.below hb, h.rs.below hb, h.rq.below hb⟩
theorem litT_cells {b1 : Nat} {b : Int} {a : Option Addr} {k : Nat} {W : World} (h : W.heap[b1]? = some (litTO b a k)) :
    W.cell? ⟨b1, 0, none⟩ = some (.slice a 2 k) ∧ W.cell? ⟨b1, 1, none⟩ = some (.int .i64 1) ∧ W.cell? ⟨b1, 2, none⟩ = some (.int .i64 1) ∧ W.cell? ⟨b1, 3, none⟩ = some (.int .i64 2) ∧ W.cell? ⟨b1, 4, none⟩ = some (.int .i64 b) :=
  ⟨box_cell h 0 _ rfl, box_cell h 1 _ rfl, box_cell h 2 _ rfl, box_cell h 3 _ rfl, box_cell h 4 _ rfl⟩
abbrev wantObj : Obj := .cells #[.int .i64 0, .int .i64 2, .int .i64 6, .int .i64 0, .int .i64 2, .int .i64 1, .int .i64 6, .int .i64 0, .int .i64 1, .int .i64 0, .int .i64 6, .int .i64 1, .int .i64 0, .int .i64 1, .int .i64 24, .int .i64 0,
  .int .i64 1, .int .i64 0, .int .i64 (-36), .int .i64 0, .int .i64 1, .int .i64 2, .int .i64 34, .int .i64 1, .int .i64 2, .int .i64 1, .int .i64 (-46), .int .i64 (-1)] 71
theorem lit_want (w : World) : ArcA (w.alloc wantObj) (some ⟨w.heap.size, 0, none⟩) 7 exWant := by
  have h := heap_alloc_new w wantObj
  refine ⟨Nat.le_refl _, by decide, fun i hi => ⟨w.heap.size, 0, rfl, by simp, ?_⟩⟩
  have hi' : i < 7 := hi
  intro j v hv
  have hj : j < 4 := (List.getElem?_eq_some_iff.1 hv).1
  obtain rfl | rfl | rfl | rfl | rfl | rfl | rfl : i = 0 ∨ i = 1 ∨ i = 2 ∨ i = 3 ∨ i = 4 ∨ i = 5 ∨ i = 6 := by omega
  all_goals
    obtain rfl | rfl | rfl | rfl : j = 0 ∨ j = 1 ∨ j = 2 ∨ j = 3 := by omega
    all_goals exact box_cell h _ _ hv
set_option maxRecDepth 100000 in
set_option maxHeartbeats 4000000 in
theorem sane13_any (w : World) : Calls Try.prog 11 #[] w fun e w' => e = .returned (.bool true) ∧ Below w.heap.size w w' := by
  have HB1 := Lib.hid (below_step (below_new w (chObj2 20 12 30 12)) (below_new (w.alloc (chObj2 20 12 30 12)) (litTO 1 (some ⟨w.heap.size, 0, none⟩) 2)))
  have M1 := Lib.hid (show SnAt w.heap.size (w.heap.size + 1) ((w.alloc (chObj2 20 12 30 12)).alloc (litTO 1 (some ⟨w.heap.size, 0, none⟩) 2)) from ⟨(lit_ch2 w 20 12 30 12).below (below_new _ _), by
    have := heap_alloc_new (w.alloc (chObj2 20 12 30 12)) (litTO 1 (some ⟨w.heap.size, 0, none⟩) 2)
    rw [show (w.alloc (chObj2 20 12 30 12)).heap.size = w.heap.size + 1 by simp] at this; exact this⟩)
  obtain ⟨s1, hs1⟩ : ∃ s, s = provedS exT 40 [0, 2, 1] := ⟨_, rfl⟩
  obtain ⟨s2, hs2⟩ : ∃ s, s = provedS exTwo 32 [0, 1, 2] := ⟨_, rfl⟩
  have HBt := Lib.hid (fun (W : World) (a : Option Addr) (k : Nat) (h : ChA W a k exT.chs) => (show Calls Try.prog 22 #[litT 1 a k] W (SchE W s1 0) by rw [hs1]; exact bestT_any a k W h))
  have HBw := Lib.hid (fun (W : World) (a : Option Addr) (k : Nat) (h : ChA W a k exT.chs) => (show Calls Try.prog 22 #[litT 2 a k] W (SchE W s2 0) by rw [hs2]; exact bestTwo_any a k W h))
  have HBs := Lib.hid (fun (W : World) (a : Option Addr) (k : Nat) (h : ChA W a k exShort.chs) => (show Calls Try.prog 22 #[litT 2 a k] W (SchE W ⟨0, [], [], []⟩ 130) from bestShort_any a k W h))
  have F1 : s1.p = 40 ∧ s1.o = [0, 2, 1] ∧ s1.s = [0, 24, 18] := by rw [hs1]; exact ⟨rfl, rfl, ex_proved.1⟩
  have F2 : s2.p = 32 ∧ s2.s = [0, 4, 8] := by rw [hs2]; exact ⟨rfl, ex_proved.2⟩
  have HK1 := Lib.hid (fun (W : World) (a oa sa qa : Option Addr) (k oc sc qc : Nat) (h : ChA W a k exT.chs) (b : Nat) (hs : ScAt b s1 oa sa qa oc sc qc W) => (show Calls Try.prog 26 #[litT 1 a k, schV s1 oa sa qa oc sc qc] W fun e w' => e = .returned (.bool true) ∧ Below W.heap.size W w' by
    have := cCheck_any exT s1 (by rw [F1.1]; unfold Fits; omega) a oa sa qa k oc sc qc W h hs.ro hs.rs hs.rq
    rw [show checkS exT s1 = true by rw [hs1]; exact ex_check.1] at this; exact this))
  have HK2 := Lib.hid (fun (W : World) (a oa sa qa : Option Addr) (k oc sc qc : Nat) (h : ChA W a k exT.chs) (b : Nat) (hs : ScAt b s2 oa sa qa oc sc qc W) => (show Calls Try.prog 26 #[litT 2 a k, schV s2 oa sa qa oc sc qc] W fun e w' => e = .returned (.bool true) ∧ Below W.heap.size W w' by
    have := cCheck_any exTwo s2 (by rw [F2.1]; unfold Fits; omega) a oa sa qa k oc sc qc W h hs.ro hs.rs hs.rq
    rw [show checkS exTwo s2 = true by rw [hs2]; exact ex_check.2.1] at this; exact this))
  have HK3 := Lib.hid (fun (W : World) (a oa sa qa : Option Addr) (k oc sc qc : Nat) (h : ChA W a k exT.chs) (b : Nat) (hs : ScAt b s1 oa sa qa oc sc qc W) => (show Calls Try.prog 26 #[litT 2 a k, schV s1 oa sa qa oc sc qc] W fun e w' => e = .returned (.bool false) ∧ Below W.heap.size W w' by
    have := cCheck_any exTwo s1 (by rw [F1.1]; unfold Fits; omega) a oa sa qa k oc sc qc W h hs.ro hs.rs hs.rq
    rw [show checkS exTwo s1 = false by rw [hs1]; exact ex_check.2.2.1] at this; exact this))
  have HK4 := Lib.hid (fun (W : World) (a : Option Addr) (k : Nat) (h : ChA W a k exT.chs) => (show Calls Try.prog 26 #[litT 1 a k, .agg #[.int .i64 0, .slice none 0 0, .slice none 0 0, .slice none 0 0]] W fun e w' => e = .returned (.bool false) ∧ Below W.heap.size W w' by
    have := cCheck_any exT ⟨0, [], [], []⟩ (by show Fits 0; unfold Fits; omega) a none none none k 0 0 0 W h (RowA.nil _ _ _) (RowA.nil _ _ _) (RowA.nil _ _ _)
    rw [ex_check.2.2.2] at this; exact this))
  have HV := Lib.hid (fun (W : World) => (show Calls Try.prog 16 #[.agg #[.slice none 0 0, .int .i64 0, .int .i64 0, .int .i64 0, .int .i64 0]] W fun e w' => e = .returned (.bool false) ∧ Below W.heap.size W w' by
    have := cValid_any exZero none 0 W (RowA.nil _ _ _)
    rw [ex_valid] at this; exact this))
  have HO0 := Lib.hid (fun (W : World) => (show Calls Try.prog 14 #[.agg #[.slice none 0 0, .int .i64 0, .int .i64 0, .int .i64 0, .int .i64 0]] W fun e w' => ∃ x y, e = .returned (.slice x 0 y) ∧ Below W.heap.size W w' from
    (cOrdersR_any exZero none 0 W (RowA.nil _ _ _)).mono fun e w' ⟨x, y, h1, _, _, h3⟩ => ⟨x, y, by rw [ex_orders.2.2.2] at h1; exact h1, h3.out⟩))
  have HSI := Lib.hid (fun (W : World) (A B : List Int) (aa : Option Addr) (ac : Nat) (o : Obj) (hA : IntsA W aa ac A) (hB : IntsA (W.alloc o) (some ⟨W.heap.size, 0, none⟩) B.length B) (he : A = B) =>
    (show Calls Try.prog 18 #[.slice aa A.length ac, .slice (some ⟨W.heap.size, 0, none⟩) B.length B.length] (W.alloc o) (fun e w' => e = .returned (.bool true) ∧ Below W.heap.size W w') from (sameInts_any A B aa (some ⟨W.heap.size, 0, none⟩) ac B.length (W.alloc o) (hA.below (below_new _ _)) hB).mono fun e w' h => ⟨by rw [h.1, decide_eq_true he], below_step (below_new _ _) h.2⟩))
  unfold SchE at HBt HBw HBs
  have HF1 := Lib.hid F1; have HF2 := Lib.hid F2
  have p1 : (s1.p == 40) = true := by rw [F1.1]; rfl
  have p2 : (s2.p == 32) = true := by rw [F2.1]; rfl
  clear hs1 hs2 F1 F2
  go_enter Try.func11, Try.ntmps11
  go_upto_region 2 with (fail)
  generalize hw1 : ((w.alloc (chObj2 20 12 30 12)).alloc (litTO 1 (some ⟨w.heap.size, 0, none⟩) 2)) = w1 at *
  clear hw1
  obtain ⟨c0, hc0⟩ : ∃ c, c = w.heap.size := ⟨_, rfl⟩
  have HO1 := Lib.hid (ord_lit (some ⟨w.heap.size, 0, none⟩) 2 w1 M1.out.ch)
  obtain ⟨t0, t1, t2, t3, t4⟩ := litT_cells M1.out.tool
  go_wp2_with fail
  refine HO1.out.mono ?_
  rintro _ w2 ⟨x1, y1, rfl, b2⟩
  have M2 := Lib.hid (M1.out.below b2); have B2 := Lib.hid (below_step HB1.out b2)
  have HA2 := Lib.hid (arcs_lit (some ⟨w.heap.size, 0, none⟩) 2 w2 M2.out.ch)
  clear b2 HO1 M1 HB1 t0 t1 t2 t3 t4 hc0
  obtain ⟨t0, t1, t2, t3, t4⟩ := litT_cells M2.out.tool
  go_wp2_with fail
  refine HA2.out.mono ?_
  rintro _ w3 ⟨x2, y2, rfl, hx2, b3⟩
  have M3 := Lib.hid (M2.out.below b3); have B3 := Lib.hid (below_step B2.out b3); have X3 := Lib.hid hx2
  have HB3 := Lib.hid (HBt.out w3 (some ⟨w.heap.size, 0, none⟩) 2 M3.out.ch)
  clear b3 HA2 M2 B2 hx2 t0 t1 t2 t3 t4
  obtain ⟨t0, t1, t2, t3, t4⟩ := litT_cells M3.out.tool
  go_wp2_with fail
  refine HB3.out.mono ?_
  rintro _ w4 ⟨oa1, sa1, qa1, oc1, sc1, qc1, rfl, h1, h2, h3, b4⟩
  have hbn := below_step b4 (below_new w4 (schObj s1 oa1 sa1 qa1 oc1 sc1 qc1))
  have M4 := Lib.hid (M3.out.below hbn); have B4 := Lib.hid (below_step B3.out hbn); have X4 := Lib.hid (X3.out.below hbn)
  have S4 := Lib.hid (show ScAt w4.heap.size s1 oa1 sa1 qa1 oc1 sc1 qc1 (w4.alloc (schObj s1 oa1 sa1 qa1 oc1 sc1 qc1)) from ⟨heap_alloc_new _ _, h1.below (below_new _ _), h2.below (below_new _ _), h3.below (below_new _ _)⟩)
  clear b4 hbn h1 h2 h3 HB3 M3 B3 X3 t0 t1 t2 t3 t4
  go_upto_region 5 with (fail)
  generalize hw5 : w4.alloc (schObj s1 oa1 sa1 qa1 oc1 sc1 qc1) = w5 at *
  clear hw5
  obtain ⟨t0, t1, t2, t3, t4⟩ := litT_cells M4.out.tool
  go_upto_region 7 with (fail)
  have hbn := below_new w5 (litTO 2 (some ⟨w.heap.size, 0, none⟩) 2)
  have M5 := Lib.hid (M4.out.below hbn); have B5 := Lib.hid (below_step B4.out hbn); have X5 := Lib.hid (X4.out.below hbn); have S5 := Lib.hid (S4.out.below hbn)
  have N5 := Lib.hid (heap_alloc_new w5 (litTO 2 (some ⟨w.heap.size, 0, none⟩) 2))
  generalize hw6 : w5.alloc (litTO 2 (some ⟨w.heap.size, 0, none⟩) 2) = w6 at *
  clear hw6 hbn M4 B4 X4 S4 t0 t1 t2 t3 t4
  have HB6 := Lib.hid (HBw.out w6 (some ⟨w.heap.size, 0, none⟩) 2 M5.out.ch)
  obtain ⟨t0, t1, t2, t3, t4⟩ := litT_cells N5.out
  go_wp2_with fail
  refine HB6.out.mono ?_
  rintro _ w7 ⟨oa2, sa2, qa2, oc2, sc2, qc2, rfl, h1, h2, h3, b4⟩
  have hbn := below_step b4 (below_new w7 (schObj s2 oa2 sa2 qa2 oc2 sc2 qc2))
  have M7 := Lib.hid (M5.out.below hbn); have B7 := Lib.hid (below_step B5.out hbn); have X7 := Lib.hid (X5.out.below hbn); have S7 := Lib.hid (S5.out.below hbn); have N7 := Lib.hid (box_below N5.out hbn)
  have R7 := Lib.hid (show ScAt w7.heap.size s2 oa2 sa2 qa2 oc2 sc2 qc2 (w7.alloc (schObj s2 oa2 sa2 qa2 oc2 sc2 qc2)) from ⟨heap_alloc_new _ _, h1.below (below_new _ _), h2.below (below_new _ _), h3.below (below_new _ _)⟩)
  clear b4 hbn h1 h2 h3 HB6 M5 B5 X5 S5 N5 t0 t1 t2 t3 t4
  go_upto_region 8 with (fail)
  generalize hw8 : w7.alloc (schObj s2 oa2 sa2 qa2 oc2 sc2 qc2) = w8 at *
  clear hw8
  obtain ⟨t0, t1, t2, t3, t4⟩ := litT_cells N7.out
  go_upto_region 9 with (fail)
  have V8 := Lib.hid (heap_alloc_new w8 (litTO 2 (some ⟨w.heap.size, 0, none⟩) 2))
  have hb8 := below_new w8 (litTO 2 (some ⟨w.heap.size, 0, none⟩) 2)
  have hsz8 : w8.heap.size < (w8.alloc (litTO 2 (some ⟨w.heap.size, 0, none⟩) 2)).heap.size := by simp
  generalize w8.alloc (litTO 2 (some ⟨w.heap.size, 0, none⟩) 2) = w9 at *
  clear t0 t1 t2 t3 t4
  have v0 : w9.cell? ⟨w8.heap.size, 0, none⟩ = some (.slice (some ⟨w.heap.size, 0, none⟩) 2 2) := box_cell V8.out 0 _ rfl
  have z0 : w9.frozen? ⟨w8.heap.size, 0, none⟩ = false := box_fz V8.out 0
  have HB8 := Lib.hid hb8
  clear hb8
  go_upto_region 10 with (fail)
  have hs9 : (w9.setCell ⟨w8.heap.size, 0, none⟩ (.slice (some ⟨w9.heap.size, 0, none⟩) 2 2)).heap.size = w9.heap.size := by simp [World.setCell]
  have V10 := Lib.hid (show ((w9.setCell ⟨w8.heap.size, 0, none⟩ (.slice (some ⟨w9.heap.size, 0, none⟩) 2 2)).alloc (chObj2 20 9 30 9)).heap[w8.heap.size]? = some (litTO 2 (some ⟨w9.heap.size, 0, none⟩) 2) from box_below (block_set (o := 0) V8.out _) (below_new _ _))
  have hbj := below_step (HB8.out.grown (grown_set (w := w9) w8.heap.size 0 (.slice (some ⟨w9.heap.size, 0, none⟩) 2 2)) HB8.out.size (fun i e => by injection e with e; omega)) (below_new _ (chObj2 20 9 30 9))
  have C10 := Lib.hid (show ChA ((w9.setCell ⟨w8.heap.size, 0, none⟩ (.slice (some ⟨w9.heap.size, 0, none⟩) 2 2)).alloc (chObj2 20 9 30 9)) (some ⟨w9.heap.size, 0, none⟩) 2 exShort.chs from by
    have := lit_ch2 (w9.setCell ⟨w8.heap.size, 0, none⟩ (.slice (some ⟨w9.heap.size, 0, none⟩) 2 2)) 20 9 30 9
    rw [hs9] at this; exact this)
  generalize (w9.setCell ⟨w8.heap.size, 0, none⟩ (.slice (some ⟨w9.heap.size, 0, none⟩) 2 2)).alloc (chObj2 20 9 30 9) = w10 at *
  have M10 := Lib.hid (M7.out.below hbj); have B10 := Lib.hid (below_step B7.out hbj); have X10 := Lib.hid (X7.out.below hbj); have S10 := Lib.hid (S7.out.below hbj); have N10 := Lib.hid (box_below N7.out hbj); have R10 := Lib.hid (R7.out.below hbj)
  have HBq := Lib.hid (HBs.out w10 (some ⟨w9.heap.size, 0, none⟩) 2 C10.out)
  clear M7 B7 X7 S7 N7 R7 V8 v0 z0 hs9 HB8 hbj hsz8 C10
  obtain ⟨t0, t1, t2, t3, t4⟩ := litT_cells V10.out
  go_wp2_with fail
  refine HBq.out.mono ?_
  rintro _ w11 ⟨oa3, sa3, qa3, oc3, sc3, qc3, rfl, -, -, -, b4⟩
  have hbn := below_step b4 (below_new w11 (schObj ⟨0, [], [], []⟩ oa3 sa3 qa3 oc3 sc3 qc3))
  have M11 := Lib.hid (M10.out.below hbn); have B11 := Lib.hid (below_step B10.out hbn); have X11 := Lib.hid (X10.out.below hbn); have S11 := Lib.hid (S10.out.below hbn); have N11 := Lib.hid (box_below N10.out hbn); have R11 := Lib.hid (R10.out.below hbn)
  clear b4 hbn HBq M10 B10 X10 S10 N10 R10 V10 t0 t1 t2 t3 t4
  go_upto_region 11 with (fail)
  generalize hw12 : w11.alloc (schObj ⟨0, [], [], []⟩ oa3 sa3 qa3 oc3 sc3 qc3) = w12 at *
  clear hw12
  have HA12 := Lib.hid (arcs_lit2 (some ⟨w.heap.size, 0, none⟩) 2 w12 M11.out.ch)
  obtain ⟨t0, t1, t2, t3, t4⟩ := litT_cells M11.out.tool
  go_wp2_with fail
  refine HA12.out.mono ?_
  rintro _ w13 ⟨v13, rfl, b4⟩
  have hbn := below_step b4 (below_new w13 wantObj)
  have M13 := Lib.hid (M11.out.below hbn); have B13 := Lib.hid (below_step B11.out hbn); have X13 := Lib.hid (X11.out.below hbn); have S13 := Lib.hid (S11.out.below hbn); have N13 := Lib.hid (box_below N11.out hbn); have R13 := Lib.hid (R11.out.below hbn)
  have W13 := Lib.hid (lit_want w13)
  clear b4 hbn HA12 M11 B11 X11 S11 N11 R11 t0 t1 t2 t3 t4
  go_upto_region 15 with (fail)
  generalize hw14 : w13.alloc wantObj = w14 at *
  clear hw14
  have HQ1 := Lib.hid (show Calls Try.prog 18 #[.slice oa1 s1.o.length oc1, .slice (some ⟨w14.heap.size, 0, none⟩) 3 3] (w14.alloc (iObj3 0 2 1)) (fun e w' => e = .returned (.bool true) ∧ Below w14.heap.size w14 w') from HSI.out w14 s1.o [0, 2, 1] oa1 oc1 (iObj3 0 2 1) S13.out.ro (lit_i3 w14 0 2 1) HF1.out.2.1)
  obtain ⟨s0, s1', s2', s3'⟩ := schC_of S13.out.box
  go_wp2_with fail
  refine HQ1.out.mono ?_
  rintro _ w15 ⟨rfl, b4⟩
  clear s0 s1' s2' s3' HQ1
  have M15 := Lib.hid (M13.out.below b4); have B15 := Lib.hid (below_step B13.out b4); have X15 := Lib.hid (X13.out.below b4); have S15 := Lib.hid (S13.out.below b4); have N15 := Lib.hid (box_below N13.out b4); have R15 := Lib.hid (R13.out.below b4); have W15 := Lib.hid (W13.out.below b4)
  clear b4 M13 B13 X13 S13 N13 R13 W13
  have HQ2 := Lib.hid (show Calls Try.prog 18 #[.slice sa1 s1.s.length sc1, .slice (some ⟨w15.heap.size, 0, none⟩) 3 3] (w15.alloc (iObj3 0 24 18)) (fun e w' => e = .returned (.bool true) ∧ Below w15.heap.size w15 w') from HSI.out w15 s1.s [0, 24, 18] sa1 sc1 (iObj3 0 24 18) S15.out.rs (lit_i3 w15 0 24 18) HF1.out.2.2)
  obtain ⟨s0, s1', s2', s3'⟩ := schC_of S15.out.box
  go_wp2_with fail
  refine HQ2.out.mono ?_
  rintro _ w16 ⟨rfl, b4⟩
  clear s0 s1' s2' s3' HQ2
  have M16 := Lib.hid (M15.out.below b4); have B16 := Lib.hid (below_step B15.out b4); have X16 := Lib.hid (X15.out.below b4); have S16 := Lib.hid (S15.out.below b4); have N16 := Lib.hid (box_below N15.out b4); have R16 := Lib.hid (R15.out.below b4); have W16 := Lib.hid (W15.out.below b4)
  clear b4 M15 B15 X15 S15 N15 R15 W15
  have HQ3 := Lib.hid (show Calls Try.prog 18 #[.slice sa2 s2.s.length sc2, .slice (some ⟨w16.heap.size, 0, none⟩) 3 3] (w16.alloc (iObj3 0 4 8)) (fun e w' => e = .returned (.bool true) ∧ Below w16.heap.size w16 w') from HSI.out w16 s2.s [0, 4, 8] sa2 sc2 (iObj3 0 4 8) R16.out.rs (lit_i3 w16 0 4 8) HF2.out.2)
  obtain ⟨r0, r1, r2, r3⟩ := schC_of R16.out.box
  go_wp2_with fail
  refine HQ3.out.mono ?_
  rintro _ w17 ⟨rfl, b4⟩
  clear r0 r1 r2 r3 HQ3
  have M17 := Lib.hid (M16.out.below b4); have B17 := Lib.hid (below_step B16.out b4); have X17 := Lib.hid (X16.out.below b4); have S17 := Lib.hid (S16.out.below b4); have N17 := Lib.hid (box_below N16.out b4); have R17 := Lib.hid (R16.out.below b4); have W17 := Lib.hid (W16.out.below b4)
  clear b4 M16 B16 X16 S16 N16 R16 W16
  have HQ4 := Lib.hid (show Calls Try.prog 21 #[.slice x2 7 y2, .slice (some ⟨w13.heap.size, 0, none⟩) 7 7] w17 (fun e w' => e = .returned (.bool true) ∧ Below w17.heap.size w17 w') from sameArcs_yes exWant x2 (some ⟨w13.heap.size, 0, none⟩) y2 7 w17 X17.out W17.out)
  go_wp2_with fail
  refine HQ4.out.mono ?_
  rintro _ w18 ⟨rfl, b4⟩
  clear HQ4
  have M18 := Lib.hid (M17.out.below b4); have B18 := Lib.hid (below_step B17.out b4); have X18 := Lib.hid (X17.out.below b4); have S18 := Lib.hid (S17.out.below b4); have N18 := Lib.hid (box_below N17.out b4); have R18 := Lib.hid (R17.out.below b4); have W18 := Lib.hid (W17.out.below b4)
  clear b4 M17 B17 X17 S17 N17 R17 W17
  have HQ5 := Lib.hid (HK1.out w18 (some ⟨w.heap.size, 0, none⟩) oa1 sa1 qa1 2 oc1 sc1 qc1 M18.out.ch _ S18.out)
  obtain ⟨s0, s1', s2', s3'⟩ := schC_of S18.out.box
  obtain ⟨t0, t1, t2, t3, t4⟩ := litT_cells M18.out.tool
  go_wp2_with fail
  refine HQ5.out.mono ?_
  rintro _ w19 ⟨rfl, b4⟩
  clear s0 s1' s2' s3' t0 t1 t2 t3 t4 HQ5
  have M19 := Lib.hid (M18.out.below b4); have B19 := Lib.hid (below_step B18.out b4); have X19 := Lib.hid (X18.out.below b4); have S19 := Lib.hid (S18.out.below b4); have N19 := Lib.hid (box_below N18.out b4); have R19 := Lib.hid (R18.out.below b4); have W19 := Lib.hid (W18.out.below b4)
  clear b4 M18 B18 X18 S18 N18 R18 W18
  have HQ6 := Lib.hid (HK2.out w19 (some ⟨w.heap.size, 0, none⟩) oa2 sa2 qa2 2 oc2 sc2 qc2 M19.out.ch _ R19.out)
  obtain ⟨s0, s1', s2', s3'⟩ := schC_of R19.out.box
  obtain ⟨t0, t1, t2, t3, t4⟩ := litT_cells N19.out
  go_wp2_with fail
  refine HQ6.out.mono ?_
  rintro _ w20 ⟨rfl, b4⟩
  clear s0 s1' s2' s3' t0 t1 t2 t3 t4 HQ6
  have M20 := Lib.hid (M19.out.below b4); have B20 := Lib.hid (below_step B19.out b4); have X20 := Lib.hid (X19.out.below b4); have S20 := Lib.hid (S19.out.below b4); have N20 := Lib.hid (box_below N19.out b4); have R20 := Lib.hid (R19.out.below b4); have W20 := Lib.hid (W19.out.below b4)
  clear b4 M19 B19 X19 S19 N19 R19 W19
  have HQ7 := Lib.hid (HK3.out w20 (some ⟨w.heap.size, 0, none⟩) oa1 sa1 qa1 2 oc1 sc1 qc1 M20.out.ch _ S20.out)
  obtain ⟨s0, s1', s2', s3'⟩ := schC_of S20.out.box
  obtain ⟨t0, t1, t2, t3, t4⟩ := litT_cells N20.out
  go_wp2_with fail
  refine HQ7.out.mono ?_
  rintro _ w21 ⟨rfl, b4⟩
  clear s0 s1' s2' s3' t0 t1 t2 t3 t4 HQ7
  have M21 := Lib.hid (M20.out.below b4); have B21 := Lib.hid (below_step B20.out b4); have X21 := Lib.hid (X20.out.below b4); have S21 := Lib.hid (S20.out.below b4); have N21 := Lib.hid (box_below N20.out b4); have R21 := Lib.hid (R20.out.below b4); have W21 := Lib.hid (W20.out.below b4)
  clear b4 M20 B20 X20 S20 N20 R20 W20
  have HQ8 := Lib.hid (HK4.out w21 (some ⟨w.heap.size, 0, none⟩) 2 M21.out.ch)
  obtain ⟨t0, t1, t2, t3, t4⟩ := litT_cells M21.out.tool
  go_wp2_with fail
  refine HQ8.out.mono ?_
  rintro _ w22 ⟨rfl, b4⟩
  clear t0 t1 t2 t3 t4 HQ8
  have B22 := Lib.hid (below_step B21.out b4)
  clear b4
  go_wp2_with fail
  refine (HV.out w22).mono ?_
  rintro _ w23 ⟨rfl, b4⟩
  have B23 := Lib.hid (below_step B22.out b4)
  clear b4
  go_wp2_with fail
  refine (HO0.out w23).mono ?_
  rintro _ w24 ⟨x5, y5, rfl, b4⟩
  have B24 := Lib.hid (below_step B23.out b4)
  clear b4
  go_wp2_with fail
  go_ret
  exact ⟨rfl, B24.out⟩
end Go.Proofs.Ytiolmcnngpaapaa
