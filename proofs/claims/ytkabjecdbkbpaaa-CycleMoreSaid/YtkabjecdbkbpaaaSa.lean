/-
  The statements' common examples.
-/
import Derived.Test.YtkabjecdbkbpaaaSp
import Derived.Test.YtkabjecdbkbpaaaPq
import Derived.ArgAppend
import Derived.Deep.AppendLies
namespace Go.Proofs.Ytkabjecdbkbpaaa
open Go.RowKit Go.Shelf Cy

abbrev o2 : Obj := .cells #[.int .i64 0, .int .i64 1, .int .i64 30, .int .i64 0, .int .i64 1, .int .i64 0, .int .i64 20, .int .i64 1] 44
abbrev iObj (x y : Int) : Obj := .cells #[.int .i64 x, .int .i64 y] 3
theorem lit_arcs (w : World) : ArcA (w.alloc o2) (some ⟨w.heap.size, 0, none⟩) 2 l2 := by
  have h := heap_alloc_new w o2
  refine ⟨Nat.le_refl _, by decide, fun i hi => ⟨w.heap.size, 0, rfl, by simp, ?_⟩⟩
  have hi' : i < 2 := hi
  intro j v hv
  have hj : j < 4 := (List.getElem?_eq_some_iff.1 hv).1
  obtain rfl | rfl : i = 0 ∨ i = 1 := by omega
  · obtain rfl | rfl | rfl | rfl : j = 0 ∨ j = 1 ∨ j = 2 ∨ j = 3 := by omega
    all_goals exact box_cell h _ _ hv
  · obtain rfl | rfl | rfl | rfl : j = 0 ∨ j = 1 ∨ j = 2 ∨ j = 3 := by omega
    all_goals exact box_cell h _ _ hv
theorem lit_ints (w : World) (x y : Int) : IntsA (w.alloc (iObj x y)) (some ⟨w.heap.size, 0, none⟩) 2 [x, y] := by
  have h := heap_alloc_new w (iObj x y)
  refine ⟨Nat.le_refl _, by decide, fun i hi => ⟨w.heap.size, 0, rfl, by simp, ?_⟩⟩
  have hi' : i < 2 := hi
  intro j v hv
  have hj : j < 1 := (List.getElem?_eq_some_iff.1 hv).1
  obtain rfl : j = 0 := by omega
  obtain rfl | rfl : i = 0 ∨ i = 1 := by omega
  all_goals exact box_cell h _ _ hv
/-- What Levels leaves, its lists as arguments. -/
def LvA (n p : Int) (L : List Arc) (w : World) (e : Ending) (w' : World) : Prop :=
  ∃ sa sc ca cc, e = .returned (.tuple #[.slice sa (lvS n p L).length sc, .slice ca (lvC n p L).length cc, .bool (lvB n p L)]) ∧ IntsA w' sa sc (lvS n p L) ∧ IntsA w' ca cc (natsI (lvC n p L)) ∧ Below w.heap.size w w'
theorem LvPost.args {n p : Int} {L : List Arc} {w w' : World} {e : Ending} (h : LvPost n p L w e w') : LvA n p L w e w' := by
  obtain ⟨vs, vc, rfl, h1, h2, h3⟩ := h
  obtain ⟨sa, sc, rfl, h4, -⟩ := RowO.arg int_len h1
  obtain ⟨ca, cc, rfl, h5, -⟩ := RowO.arg int_len h2
  exact ⟨sa, sc, ca, cc, by rw [natsI_len], h4, h5, h3⟩
theorem lv_any (n p : Int) (hn : Fits n) (L : List Arc) (a : Option Addr) (c : Nat) (w : World) (hA : ArcA w a c L) (hS4 : ∀ x, a = some x → x.block < w.heap.size) :
    Calls Try.prog 14 #[.int .i64 n, .slice a L.length c, .int .i64 p] w (LvA n p L w) := (Levels_any n p hn L a c w hA hS4).mono fun _ _ h => h.args
theorem same_lit (A : List Int) (x y : Int) (aa : Option Addr) (ac : Nat) (w : World) (h : IntsA w aa ac A) (hd : A = [x, y]) :
    Calls Try.prog 18 #[.slice aa 2 ac, .slice (some ⟨w.heap.size, 0, none⟩) 2 2] (w.alloc (iObj x y)) fun e w' => e = .returned (.bool true) ∧ Below w.heap.size w w' := by
  have hb := below_new w (iObj x y)
  have := sameInts_any A [x, y] aa (some ⟨w.heap.size, 0, none⟩) ac 2 _ (h.below hb) (lit_ints w x y)
  rw [decide_eq_true hd] at this
  rw [hd] at this
  exact this.mono fun _ _ h => ⟨h.1, below_step hb h.2⟩
theorem ver_lit (x y p : Int) (r : Bool) (a : Option Addr) (w : World) (h : ArcA w a 2 l2) (h4 : ∀ x, a = some x → x.block < w.heap.size) (hr : verB 2 p l2 [x, y] = r) :
    Calls Try.prog 19 #[.int .i64 2, .slice a 2 2, .int .i64 p, .slice (some ⟨w.heap.size, 0, none⟩) 2 2] (w.alloc (iObj x y)) fun e w' => e = .returned (.bool r) ∧ Below w.heap.size w w' := by
  have hb := below_new w (iObj x y)
  have := Verify_any 2 p (by unfold Fits; omega) l2 a 2 [x, y] (some ⟨w.heap.size, 0, none⟩) 2 _ (h.below hb) (lit_ints w x y) (fun z hz => Nat.lt_of_lt_of_le (h4 z hz) hb.size)
  rw [hr] at this
  exact this.mono fun _ _ h => ⟨h.1, below_step hb h.2⟩
theorem ref_lit (x y p : Int) (hp : Fits p) (r : Bool) (a : Option Addr) (w : World) (h : ArcA w a 2 l2) (hr : refB 2 p l2 [x, y] = r) :
    Calls Try.prog 21 #[.int .i64 2, .slice a 2 2, .int .i64 p, .slice (some ⟨w.heap.size, 0, none⟩) 2 2] (w.alloc (iObj x y)) fun e w' => e = .returned (.bool r) ∧ Below w.heap.size w w' := by
  have hb := below_new w (iObj x y)
  have := Refutes_any 2 p (by unfold Fits; omega) hp l2 a 2 [x, y] (some ⟨w.heap.size, 0, none⟩) 2 _ (h.below hb) (lit_ints w x y)
  rw [hr] at this
  exact this.mono fun _ _ h => ⟨h.1, below_step hb h.2⟩
set_option maxRecDepth 100000 in
set_option maxHeartbeats 4000000 in
theorem sane_any (w : World) : Calls Try.prog 11 #[] w fun e w' => e = .returned (.bool true) ∧ Below w.heap.size w w' := by
  have HB1 := Lib.hid (below_new w o2)
  have HA := Lib.hid (lit_arcs w)
  have hX : w.heap.size < (w.alloc o2).heap.size := by simp
  have HX := Lib.hid (fun (W : World) (h : Below (w.alloc o2).heap.size (w.alloc o2) W) (z : Addr) (hz : some (⟨w.heap.size, 0, none⟩ : Addr) = some z) => show z.block < W.heap.size by
    injection hz with hz; subst hz; exact Nat.lt_of_lt_of_le hX h.size)
  have HL1 := Lib.hid (fun (W : World) (h : Below (w.alloc o2).heap.size (w.alloc o2) W) => lv_any 2 50 (by unfold Fits; omega) l2 _ 2 W (HA.out.below h) (HX.out W h))
  have HL2 := Lib.hid (fun (W : World) (h : Below (w.alloc o2).heap.size (w.alloc o2) W) => lv_any 2 49 (by unfold Fits; omega) l2 _ 2 W (HA.out.below h) (HX.out W h))
  have HS1 := Lib.hid (fun (W : World) (h : Below (w.alloc o2).heap.size (w.alloc o2) W) => Smallest_any 2 0 1000 (by unfold Fits; omega) l2 _ 2 W (HA.out.below h) (HX.out W h))
  have HS2 := Lib.hid (fun (W : World) (h : Below (w.alloc o2).heap.size (w.alloc o2) W) => Smallest_any 2 0 40 (by unfold Fits; omega) l2 _ 2 W (HA.out.below h) (HX.out W h))
  unfold LvA at HL1 HL2
  unfold SmPost at HS1 HS2
  rw [ex_one.1, ex_one.2.1, ex_one.2.2] at HL1
  rw [ex_two.1, ex_two.2.1, ex_two.2.2] at HL2
  obtain ⟨i0, hi, hz0, hz1, hz2⟩ := info_parts info_arc
  have HSz := Lib.hid hX
  have HOw := Lib.hid (World.ownsRow_lit (base := w.heap.size) (size := 4) (e := 44) w #[.int .i64 0, .int .i64 1, .int .i64 30, .int .i64 0, .int .i64 1, .int .i64 0, .int .i64 20, .int .i64 1] 2 (Nat.le_refl _) (by decide) rfl)
  clear hX
  go_enter Try.func11, Try.ntmps11
  go_wp2_with fail
  generalize w.alloc o2 = w1 at *
  refine (HL1.out w1 (Below.refl _ _)).mono ?_
  rintro _ w2 ⟨sa, sc, ca, cc, rfl, i1, -, b2⟩
  have I1 := Lib.hid i1; have B2 := Lib.hid b2
  clear i1 b2 HL1
  go_wp2_with fail
  refine (HL2.out w2 B2.out).mono ?_
  rintro _ w3 ⟨da, dc, ea, ec, rfl, -, i2, b3⟩
  have I2 := Lib.hid i2; have B3 := Lib.hid (below_step B2.out b3); have I13 := Lib.hid (I1.out.below b3)
  clear i2 b3 HL2 I1 B2
  go_wp2_with fail
  refine (HS1.out w3 B3.out).mono ?_
  rintro _ w4 ⟨q1, f1, rfl, b4, -, h1⟩
  obtain ⟨rfl, rfl⟩ := ex_sm (h1 (by kernel_rfl))
  have B4 := Lib.hid (below_step B3.out b4); have I14 := Lib.hid (I13.out.below b4); have I24 := Lib.hid (I2.out.below b4)
  clear h1 b4 HS1 I13 I2 B3
  go_wp2_with fail
  refine (HS2.out w4 B4.out).mono ?_
  rintro _ w5 ⟨q2, f2, rfl, b5, -, h1⟩
  obtain rfl := ex_sm2 (h1 (by kernel_rfl))
  have B5 := Lib.hid (below_step B4.out b5); have I15 := Lib.hid (I14.out.below b5); have I25 := Lib.hid (I24.out.below b5)
  clear h1 b5 HS2 I14 I24 B4
  have A5 := Lib.hid (HA.out.below B5.out)
  have HNW := Lib.hid (World.news_of_block (w := w5.alloc (.cells #[.int .i64 0, .int .i64 1, .int .i64 10, .int .i64 (-1)] 44)) (B := w5.heap.size) (cs := #[.int .i64 0, .int .i64 1, .int .i64 10, .int .i64 (-1)]) (t := 44) (fr := (0, 0)) (heap_alloc_new w5 _))
  have HOl := Lib.hid (show ∀ b, some (⟨w.heap.size, 0, none⟩ : Addr) = some b → ∀ (j : Nat) (u : Value), (l2.flatMap arcCells)[j]? = some u → (w5.alloc (.cells #[.int .i64 0, .int .i64 1, .int .i64 10, .int .i64 (-1)] 44)).cell? (b.add j) = some u from fun b hb => by
      have hb2 : (⟨w.heap.size, 0, none⟩ : Addr) = b := Option.some.inj hb
      subst hb2
      exact ((own_below HOw.out B5.out).alloc _).cells (g := w.heap.size) rfl)
  go_wp2_with (at_builtin; refine wpList_append_grows _ rfl _ _ 23 rfl 44 i0 _ 4 32 Try.underlying23 hi hz0 hz1 hz2 rfl (by decide) (some ⟨w.heap.size, 0, none⟩) 2 2 (l2.flatMap arcCells) rfl (by intro h; cases h) rfl HOl.out ⟨w5.heap.size, 0, none⟩ 1 1 [.int .i64 0, .int .i64 1, .int .i64 10, .int .i64 (-1)] rfl rfl HNW.out (by simp [Value.oneCell']) (by decide) (by decide) (by decide) ?_)
  intro v6 w6 hown hgr
  have h6 := below_step B5.out (below_step (below_new w5 (.cells #[.int .i64 0, .int .i64 1, .int .i64 10, .int .i64 (-1)] 44)) ((Below.refl _ _).grown hgr (Nat.le_refl _) (fun k h => by cases h)))
  have h56 := below_step (below_new w5 (.cells #[.int .i64 0, .int .i64 1, .int .i64 10, .int .i64 (-1)] 44)) ((Below.refl _ _).grown hgr (Nat.le_refl _) (fun k h => by cases h))
  have B6 := Lib.hid h6
  have I16 := Lib.hid (I15.out.below h56); have I26 := Lib.hid (I25.out.below h56)
  obtain ⟨a6, c6, rfl, m6, k6⟩ := RowO.arg arc_len (show ArcO w6 (w5.heap.size + 1) v6 l3 from hown)
  have M6 := Lib.hid m6
  have HL3 := Lib.hid (lv_any 2 60 (by unfold Fits; omega) l3 a6 c6 w6 m6 (fun x hx => (hown.lt _ (k6 x hx)).2))
  unfold LvA at HL3
  rw [ex_three.1, ex_three.2.1, ex_three.2.2] at HL3
  clear h6 h56 hown hgr k6 m6 HNW HOl HOw I15 I25 A5 B5 hi hz0 hz1 hz2
  go_wp2_with fail
  refine HL3.out.mono ?_
  rintro _ w7 ⟨ga, gc, ha, hc, rfl, -, i3, b7⟩
  have I37 := Lib.hid i3; have B7 := Lib.hid (below_step B6.out b7); have I17 := Lib.hid (I16.out.below b7); have I27 := Lib.hid (I26.out.below b7)
  clear i3 b7 HL3 I16 I26 B6 M6
  have HQ1 := Lib.hid (same_lit _ 0 30 sa sc w7 I17.out rfl)
  go_wp2_with fail
  refine HQ1.out.mono ?_
  rintro _ w8 ⟨rfl, b8⟩
  have B8 := Lib.hid (below_step B7.out b8); have I28 := Lib.hid (I27.out.below b8); have I38 := Lib.hid (I37.out.below b8)
  clear b8 HQ1 I17 I27 I37 B7
  have HQ2 := Lib.hid (same_lit _ 0 1 ea ec w8 I28.out rfl)
  go_wp2_with fail
  refine HQ2.out.mono ?_
  rintro _ w9 ⟨rfl, b9⟩
  have B9 := Lib.hid (below_step B8.out b9); have I39 := Lib.hid (I38.out.below b9)
  clear b9 HQ2 I28 I38 B8
  have HQ3 := Lib.hid (same_lit _ 1 2 ha hc w9 I39.out rfl)
  go_wp2_with fail
  refine HQ3.out.mono ?_
  rintro _ w10 ⟨rfl, b10⟩
  have B10 := Lib.hid (below_step B9.out b10)
  clear b10 HQ3 I39 B9
  have HV1 := Lib.hid (ver_lit 5 35 50 true _ w10 (HA.out.below B10.out) (HX.out w10 B10.out) ex_ver.1)
  go_wp2_with fail
  refine HV1.out.mono ?_
  rintro _ w11 ⟨rfl, b11⟩
  have B11 := Lib.hid (below_step B10.out b11)
  clear b11 HV1 B10
  have HV2 := Lib.hid (ver_lit 5 34 50 false _ w11 (HA.out.below B11.out) (HX.out w11 B11.out) ex_ver.2)
  go_wp2_with fail
  refine HV2.out.mono ?_
  rintro _ w12 ⟨rfl, b12⟩
  have B12 := Lib.hid (below_step B11.out b12)
  clear b12 HV2 B11
  have HR1 := Lib.hid (ref_lit 1 0 49 (by unfold Fits; omega) true _ w12 (HA.out.below B12.out) ex_ref.1)
  go_wp2_with fail
  refine HR1.out.mono ?_
  rintro _ w13 ⟨rfl, b13⟩
  have B13 := Lib.hid (below_step B12.out b13)
  clear b13 HR1 B12
  have HR2 := Lib.hid (ref_lit 1 0 50 (by unfold Fits; omega) false _ w13 (HA.out.below B13.out) ex_ref.2)
  go_wp2_with fail
  refine HR2.out.mono ?_
  rintro _ w14 ⟨rfl, b14⟩
  have B14 := Lib.hid (below_step B13.out b14)
  clear b14 HR2 B13
  have HW1 := Lib.hid (Valid_any 2 (by unfold Fits; omega) l2 _ 2 w14 (HA.out.below B14.out))
  rw [ex_val.1] at HW1
  go_wp2_with fail
  refine HW1.out.mono ?_
  rintro _ w15 ⟨rfl, b15⟩
  have B15 := Lib.hid (below_step B14.out b15)
  clear b15 HW1 B14
  have HW2 := Lib.hid (Valid_any 1 (by unfold Fits; omega) l2 _ 2 w15 (HA.out.below B15.out))
  rw [ex_val.2] at HW2
  go_wp2_with fail
  refine HW2.out.mono ?_
  rintro _ w16 ⟨rfl, b16⟩
  have B16 := Lib.hid (below_step HB1.out (below_step B15.out b16))
  clear b16 HW2 B15
  go_wp2_with fail
  go_ret
  exact ⟨rfl, B16.out⟩
end Go.Proofs.Ytkabjecdbkbpaaa
