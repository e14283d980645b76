/-
  arcsOf: the arcs of an order.
-/
import Derived.Test.YtiolmcnngpaapaaRo
import Derived.Test.YtiolmcnngpaapaaAd
namespace Go.Proofs.Ytiolmcnngpaapaa
open Go.RowKit Go.Shelf Cl
open Cy (Arc)

def robV (c : Tool) : Value := if c.blades = 1 then rob1 else rob2
/-- The four functions of a tool's robot. -/
structure RobOk (c : Tool) (e1 e2 e3 e4 : Nat) : Prop where
  rob : robV c = .agg #[fnV e1, fnV e2, fnV e3, fnV e4]
  en2 : ∀ args w, (callFunc e2 args).run Try.prog w = .ok (.enter e2 args) w
  en3 : ∀ args w, (callFunc e3 args).run Try.prog w = .ok (.enter e3 args) w
  en4 : ∀ args w, (callFunc e4 args).run Try.prog w = .ok (.enter e4 args) w
  lasting : ∀ a k w, Calls Try.prog e2 #[toolV c a k] w fun e w' => e = .returned (.int .i64 (work c)) ∧ Below w.heap.size w w'
  travel : ∀ x y w, 0 ≤ x ∧ x ≤ 10 → Calls Try.prog e3 #[.int .i64 x, .int .i64 y] w fun e w' => e = .returned (.bool (travels c x y)) ∧ w = w'
  stay : ∀ o oa oc j l m w, 0 ≤ j ∧ j ≤ 10 → -1000000 ≤ m ∧ m ≤ 1000000 → IntsA w oa oc o → Calls Try.prog e4 #[.slice oa o.length oc, .int .i64 j, .int .i64 l, .int .i64 m] w (ArcsN w (stayArcs c o j l m))
theorem robOk (c : Tool) (hc : ToolB c) : ∃ e1 e2 e3 e4, RobOk c e1 e2 e3 e4 := by
  rcases hc.bl with hb | hb
  · refine ⟨59, 60, 61, 62, ?_, enters_of Try.func60 (by kernel_rfl) rfl, enters_of Try.func61 (by kernel_rfl) rfl, enters_of Try.func62 (by kernel_rfl) rfl, fun a k w => ?_, fun x y w hx => ?_, fun o oa oc j l m w hj hm h => ?_⟩
    · unfold robV; rw [if_pos hb]
    · unfold work; rw [if_neg (by omega)]; exact lasting1_any c hc a k w
    · unfold travels; rw [if_neg (by omega)]; exact travels1_any x y hx w
    · exact stay1_any c hb o oa oc j l m hj hm w h
  · refine ⟨65, 66, 67, 68, ?_, enters_of Try.func66 (by kernel_rfl) rfl, enters_of Try.func67 (by kernel_rfl) rfl, enters_of Try.func68 (by kernel_rfl) rfl, fun a k w => ?_, fun x y w hx => ?_, fun o oa oc j l m w hj hm h => ?_⟩
    · unfold robV; rw [if_neg (by omega)]
    · unfold work; rw [if_pos hb]; exact lasting2_any c hc a k w
    · unfold travels; rw [if_pos hb]; exact travels2_any x y w
    · exact stay2_any c hb o oa oc j l m hm w
/-- The boxes of arcsOf: the tool, the requirements, the robot. -/
structure AoAt (W : World) (c : Tool) (a : Option Addr) (k R : Nat) (e1 e2 e3 e4 : Nat) (L : List Arc) (w : World) : Prop where
  tool : w.heap[W.heap.size]? = some (toolObj c a k)
  req : ReqAt w (W.heap.size + 1) (W.heap.size + 1) L
  rob : w.heap[R]? = some (.cells #[fnV e1, fnV e2, fnV e3, fnV e4] 76)
  bel : Below W.heap.size W w
theorem AoAt.below {W : World} {c : Tool} {a : Option Addr} {k R e1 e2 e3 e4 : Nat} {L : List Arc} {w w' : World} (h : AoAt W c a k R e1 e2 e3 e4 L w) (hb : Below w.heap.size w w') : AoAt W c a k R e1 e2 e3 e4 L w' :=
  ⟨box_below h.tool hb, h.req.below hb, box_below h.rob hb, below_step h.bel hb⟩
theorem AoAt.add {W : World} {c : Tool} {a : Option Addr} {k R e1 e2 e3 e4 : Nat} {L L' : List Arc} {w w' : World} (h : AoAt W c a k R e1 e2 e3 e4 L w) (hR : R ≠ W.heap.size + 1) (h1 : ReqAt w' (W.heap.size + 1) (W.heap.size + 1) L') (h2 : Below (W.heap.size + 1) w w') (h3 : KeepX (W.heap.size + 1) w w') : AoAt W c a k R e1 e2 e3 e4 L' w' :=
  ⟨h3 _ _ _ h.tool (by decide) (by omega), h1, h3 _ _ _ h.rob (by decide) hR, h.bel.trans (h2.mono (by omega))⟩
theorem robotV_any (c : Tool) (hc : ToolB c) (a : Option Addr) (k : Nat) (w : World) : Calls Try.prog 34 #[toolV c a k] w fun e w' => e = .returned (robV c) ∧ Below w.heap.size w w' := robotOf_any c hc.bl a k w
theorem lit_arc1 (w : World) (x : Arc) : ArcA (w.alloc (arcObj x)) (some ⟨w.heap.size, 0, none⟩) 1 [x] := by
  have h := heap_alloc_new w (arcObj x)
  refine ⟨Nat.le_refl _, by decide, fun i hi => ⟨w.heap.size, 0, rfl, by simp, ?_⟩⟩
  have hi' : i < 1 := hi
  intro j v hv
  have hj : j < 4 := (List.getElem?_eq_some_iff.1 hv).1
  obtain rfl : i = 0 := by omega
  obtain rfl | rfl | rfl | rfl : j = 0 ∨ j = 1 ∨ j = 2 ∨ j = 3 := by omega
  all_goals exact box_cell h _ _ hv
theorem reqAt_new (w : World) (X : Nat) (h : w.heap[X]? = some (.cells #[.slice none 0 0] 104)) (B : Nat) : ReqAt w B X [] :=
  ⟨_, h, RowO.nil _ _ _ _ _, fun k e => by simp [Value.ownBlock] at e⟩
set_option maxRecDepth 100000 in
set_option maxHeartbeats 8000000 in
theorem arcsOf_any (c : Tool) (hv : validT c = true) (o : List Int) (ho : Ord c.chs.length o) (a : Option Addr) (k : Nat) (oa : Option Addr) (oc : Nat) (W : World) (hA : ChA W a k c.chs) (hO : IntsA W oa oc o) :
    Calls Try.prog 42 #[toolV c a k, .slice oa o.length oc] W (ArcsN W (arcsC c o)) := by
  have HT := Lib.hid (toolB_of hv)
  obtain ⟨e1, e2, e3, e4, hR⟩ := robOk c HT.out
  have HR := Lib.hid hR
  have HRo := Lib.hid (fun w => robotV_any c HT.out a k w)
  rw [hR.rob] at HRo
  have HL := Lib.hid hR.lasting
  have HTr := Lib.hid hR.travel
  have HSt := Lib.hid hR.stay
  have en2 := hR.en2
  have en3 := hR.en3
  have en4 := hR.en4
  have HA := Lib.hid hA; have HO := Lib.hid hO; have HOrd := Lib.hid ho
  have hwb := work_bd hv
  have hwt := HT.out.travel
  have hln : 0 < o.length ∧ o.length ≤ 5 := by have h1 := ho.len; have h2 := (validT_iff.1 hv).2.2.2.2.1; omega
  have HLn := Lib.hid ho.len
  have hch := (validT_iff.1 hv).2.2.2.2.1
  have HCh := Lib.hid (validT_iff.1 hv).2.2.2.2.2
  have HEnd := Lib.hid (show arcsC c o = ringTo c o o.length ++ chTo c o c.chs.length from rfl)
  clear hR hA hO ho hv
  have H0 := Lib.hid (show ((W.alloc (toolObj c a k)).alloc (.cells #[.slice none 0 0] 104)).heap[W.heap.size]? = some (toolObj c a k) from box_below (heap_alloc_new _ _) (below_new _ _))
  have H1 := Lib.hid (show ((W.alloc (toolObj c a k)).alloc (.cells #[.slice none 0 0] 104)).heap[W.heap.size + 1]? = some (.cells #[.slice none 0 0] 104) from by
    have := heap_alloc_new (W.alloc (toolObj c a k)) (.cells #[.slice none 0 0] 104)
    rw [show (W.alloc (toolObj c a k)).heap.size = W.heap.size + 1 by simp] at this; exact this)
  have HB := Lib.hid (((Below.refl W.heap.size W).alloc (Nat.le_refl _) (toolObj c a k)).alloc (by simp) (.cells #[.slice none 0 0] 104))
  go_enter Try.func42, Try.ntmps42
  go_wp2_with fail
  refine (HRo.out _).mono ?_
  rintro _ w1 ⟨rfl, b1⟩
  have T1 := Lib.hid (box_below H0.out b1); have Q1 := Lib.hid (box_below H1.out b1); have B1 := Lib.hid (below_step HB.out b1)
  have s1 : W.heap.size + 1 < w1.heap.size := lt_of_block Q1.out
  clear b1 HRo H0 H1 HB
  have HX := Lib.hid (show ∀ W', W' = w1.alloc (.cells #[fnV e1, fnV e2, fnV e3, fnV e4] 76) → AoAt W c a k w1.heap.size e1 e2 e3 e4 [] W' from fun W' h => by
    subst h
    exact ⟨box_below T1.out (below_new _ _), reqAt_new _ _ (box_below Q1.out (below_new _ _)) _, heap_alloc_new _ _, below_step B1.out (below_new _ _)⟩)
  clear T1 Q1 B1
  go_upto_region 3 with (fail)
  generalize hw2 : w1.alloc (.cells #[fnV e1, fnV e2, fnV e3, fnV e4] 76) = w2 at *
  have X2 := Lib.hid (HX.out w2 rfl)
  obtain ⟨R, hR⟩ : ∃ R, R = w1.heap.size := ⟨_, rfl⟩
  rw [← hR] at X2
  have HRR := Lib.hid hR
  rw [← hR]
  have hRn : R ≠ W.heap.size + 1 := by omega
  clear hw2 HX hR s1
  have r1 : w2.cell? ⟨R, 1, none⟩ = some (fnV e2) := box_cell X2.out.rob 1 _ rfl
  have T0 := Lib.hid (show w2.cell? ⟨W.heap.size, 0, none⟩ = some (.slice a c.chs.length k) ∧ w2.cell? ⟨W.heap.size, 1, none⟩ = some (.int .i64 c.pick) ∧ w2.cell? ⟨W.heap.size, 2, none⟩ = some (.int .i64 c.place) ∧ w2.cell? ⟨W.heap.size, 3, none⟩ = some (.int .i64 c.travel) ∧ w2.cell? ⟨W.heap.size, 4, none⟩ = some (.int .i64 c.blades) from ⟨box_cell X2.out.tool 0 _ rfl, box_cell X2.out.tool 1 _ rfl, box_cell X2.out.tool 2 _ rfl, box_cell X2.out.tool 3 _ rfl, box_cell X2.out.tool 4 _ rfl⟩)
  obtain ⟨t0, t1, t2, t3, t4⟩ := T0.out
  go_wp2_with fail
  refine (HL.out a k w2).mono ?_
  rintro _ w3 ⟨rfl, b3⟩
  have X3 := Lib.hid (X2.out.below b3)
  clear b3 X2 t0 t1 t2 t3 t4 r1 T0 HL HRR
  go_wp2_with fail
  go_loopw [24] (fun iv wr => ∃ i : Nat, i ≤ o.length ∧ iv = .int .i64 (i : Int) ∧ Hid (AoAt W c a k R e1 e2 e3 e4 (ringTo c o i) wr)) (fun iv _ => o.length - (intOf iv).toNat)
  case atStart => exact ⟨0, Nat.zero_le _, rfl, X3⟩
  case round =>
    clear X3
    obtain ⟨i, hi, rfl, HX⟩ := hrel
    by_cases hlt : i < o.length
    · have HAr := Lib.hid (HO.out.below HX.out.bel)
      obtain ⟨b, off, rfl, hb, hc⟩ := HAr.out.at (by omega)
      have x0 := int_cell (hc i hlt)
      have z0 := int_cell (hc 0 hln.1)
      rw [Nat.mul_one] at x0
      rw [Nat.zero_mul, Nat.add_zero] at z0
      have HY := Lib.hid (fun (h : i + 1 < o.length) => (show wr.cell? ⟨b, off + (i + 1), none⟩ = some (.int .i64 o[i + 1]) from by
        have := int_cell (hc (i + 1) h); rwa [Nat.mul_one] at this))
      have HS := Lib.hid (ringTo_succ c o i)
      have hxb := HOrd.out.bd o[i] (List.getElem_mem hlt)
      have HG := Lib.hid (show ringArc c o i = ⟨o[i], nxt o i, if travels c o[i] (nxt o i) then work c + c.travel else work c, tokOf o i⟩ from by
        unfold ringArc; rw [List.getD_eq_getElem?_getD, List.getElem?_eq_getElem hlt]; rfl)
      have HN1 := Lib.hid (fun (h : i + 1 < o.length) => (show nxt o i = o[i + 1] ∧ tokOf o i = 0 from by
        unfold nxt tokOf; rw [if_pos h, if_pos h, List.getD_eq_getElem?_getD, List.getElem?_eq_getElem h]; exact ⟨rfl, rfl⟩))
      have HN2 := Lib.hid (fun (h : ¬ i + 1 < o.length) => (show nxt o i = o[0]'hln.1 ∧ tokOf o i = 1 from by
        unfold nxt tokOf; rw [if_neg h, if_neg h, List.getD_eq_getElem?_getD, List.getElem?_eq_getElem hln.1]; exact ⟨rfl, rfl⟩))
      have HRl := ringTo_len c o i
      rw [HG.out] at HS
      have HTx := Lib.hid (fun (y : Int) (w : World) => HTr.out o[i] y w (by omega))
      generalize nxt o i = N at *
      generalize tokOf o i = T at *
      generalize o[i] = x at *
      generalize o[0]'hln.1 = z at *
      have i0 : (0 : Int) ≤ (i : Int) := by omega
      have i1 : (i : Int) < (o.length : Int) := by omega
      have i2 : (0 : Int) < (o.length : Int) := by omega
      have d1 : IntKind.i64.wrap ((i : Int) + 1) = (i : Int) + 1 := IntWalk.i64_in _ (by omega)
      have r2 : wr.cell? ⟨R, 2, none⟩ = some (fnV e3) := box_cell HX.out.rob 2 _ rfl
      have t3 : wr.cell? ⟨W.heap.size, 3, none⟩ = some (.int .i64 c.travel) := box_cell HX.out.tool 3 _ rfl
      have d2 : IntKind.i64.wrap (work c + c.travel) = work c + c.travel := IntWalk.i64_in _ (by omega)
      have HAd := Lib.hid (fun (t : Int) => add_any (W.heap.size + 1) (W.heap.size + 1) (Nat.le_refl _) (ringTo c o i) [⟨x, N, t, T⟩] ⟨by omega, by simp⟩ (some ⟨wr.heap.size, 0, none⟩) 1 (wr.alloc (arcObj ⟨x, N, t, T⟩)) (HX.out.req.below (below_new _ _)) (lit_arc1 wr ⟨x, N, t, T⟩) (by simp))
      have HFin := Lib.hid (fun (t : Int) (w' : World) (h1 : ReqAt w' (W.heap.size + 1) (W.heap.size + 1) (ringTo c o i ++ [⟨x, N, t, T⟩])) (h2 : Below (W.heap.size + 1) (wr.alloc (arcObj ⟨x, N, t, T⟩)) w') (h3 : KeepX (W.heap.size + 1) (wr.alloc (arcObj ⟨x, N, t, T⟩)) w') => (HX.out.below (below_new wr (arcObj ⟨x, N, t, T⟩))).add hRn h1 h2 h3)
      clear hc HG hxb HAr
      by_cases hnx : i + 1 < o.length
      · obtain ⟨rfl, rfl⟩ := HN1.out hnx
        have y0 := HY.out hnx
        have i3 : (i : Int) + 1 < (o.length : Int) := by omega
        have i4 : (0 : Int) ≤ (i : Int) + 1 := by omega
        clear HN1 HN2 HY
        generalize o[i + 1] = y at *
        cases hT : travels c x y with
        | false =>
          have HW := Lib.hid (show (if travels c x y then work c + c.travel else work c) = work c from by rw [hT]; rfl)
          rw [HW.out] at HS
          have HTt := Lib.hid (HTx.out y wr)
          rw [hT] at HTt
          have HA1 := Lib.hid (HAd.out (work c))
          have HF1 := Lib.hid (HFin.out (work c))
          rw [← HS.out] at HA1 HF1
          dsimp only [List.length_cons, List.length_nil] at HA1
          clear HW HS HTx HAd HFin hT HX HRl
          go_wp2_with fail
          refine HTt.out.mono ?_
          rintro _ w4 ⟨rfl, rfl⟩
          go_wp2_with fail
          refine HA1.out.mono ?_
          rintro _ w4 ⟨rfl, h1, h2, h3⟩
          have X4 := Lib.hid (HF1.out _ h1 h2 h3)
          clear h1 h2 h3 HA1 HF1 HTt
          go_wp2_with fail
          go_roundw
          case rel => exact ⟨i + 1, by omega, by go_num, X4⟩
          case measure => simp [intOf]; omega
        | true =>
          have HW := Lib.hid (show (if travels c x y then work c + c.travel else work c) = work c + c.travel from by rw [hT]; rfl)
          rw [HW.out] at HS
          have HTt := Lib.hid (HTx.out y wr)
          rw [hT] at HTt
          have HA1 := Lib.hid (HAd.out (work c + c.travel))
          have HF1 := Lib.hid (HFin.out (work c + c.travel))
          rw [← HS.out] at HA1 HF1
          dsimp only [List.length_cons, List.length_nil] at HA1
          clear HW HS HTx HAd HFin hT HX HRl
          go_wp2_with fail
          refine HTt.out.mono ?_
          rintro _ w4 ⟨rfl, rfl⟩
          go_wp2_with fail
          refine HA1.out.mono ?_
          rintro _ w4 ⟨rfl, h1, h2, h3⟩
          have X4 := Lib.hid (HF1.out _ h1 h2 h3)
          clear h1 h2 h3 HA1 HF1 HTt
          go_wp2_with fail
          go_roundw
          case rel => exact ⟨i + 1, by omega, by go_num, X4⟩
          case measure => simp [intOf]; omega
      · obtain ⟨rfl, rfl⟩ := HN2.out hnx
        have i3 : ¬ (i : Int) + 1 < (o.length : Int) := by omega
        clear HN1 HN2 HY
        cases hT : travels c x N with
        | false =>
          have HW := Lib.hid (show (if travels c x N then work c + c.travel else work c) = work c from by rw [hT]; rfl)
          rw [HW.out] at HS
          have HTt := Lib.hid (HTx.out N wr)
          rw [hT] at HTt
          have HA1 := Lib.hid (HAd.out (work c))
          have HF1 := Lib.hid (HFin.out (work c))
          rw [← HS.out] at HA1 HF1
          dsimp only [List.length_cons, List.length_nil] at HA1
          clear HW HS HTx HAd HFin hT HX HRl
          go_wp2_with fail
          refine HTt.out.mono ?_
          rintro _ w4 ⟨rfl, rfl⟩
          go_wp2_with fail
          refine HA1.out.mono ?_
          rintro _ w4 ⟨rfl, h1, h2, h3⟩
          have X4 := Lib.hid (HF1.out _ h1 h2 h3)
          clear h1 h2 h3 HA1 HF1 HTt
          go_wp2_with fail
          go_roundw
          case rel => exact ⟨i + 1, by omega, by go_num, X4⟩
          case measure => simp [intOf]; omega
        | true =>
          have HW := Lib.hid (show (if travels c x N then work c + c.travel else work c) = work c + c.travel from by rw [hT]; rfl)
          rw [HW.out] at HS
          have HTt := Lib.hid (HTx.out N wr)
          rw [hT] at HTt
          have HA1 := Lib.hid (HAd.out (work c + c.travel))
          have HF1 := Lib.hid (HFin.out (work c + c.travel))
          rw [← HS.out] at HA1 HF1
          dsimp only [List.length_cons, List.length_nil] at HA1
          clear HW HS HTx HAd HFin hT HX HRl
          go_wp2_with fail
          refine HTt.out.mono ?_
          rintro _ w4 ⟨rfl, rfl⟩
          go_wp2_with fail
          refine HA1.out.mono ?_
          rintro _ w4 ⟨rfl, h1, h2, h3⟩
          have X4 := Lib.hid (HF1.out _ h1 h2 h3)
          clear h1 h2 h3 HA1 HF1 HTt
          go_wp2_with fail
          go_roundw
          case rel => exact ⟨i + 1, by omega, by go_num, X4⟩
          case measure => simp [intOf]; omega
    · have i1 : ¬ (i : Int) < (o.length : Int) := by omega
      obtain rfl : i = o.length := by omega
      have X4 := HX
      clear HX hi hlt HTr
      have t0 : wr.cell? ⟨W.heap.size, 0, none⟩ = some (.slice a c.chs.length k) := box_cell X4.out.tool 0 _ rfl
      go_wp2_with fail
      clear t0
      go_loopw [63] (fun iv wr => ∃ i : Nat, i ≤ c.chs.length ∧ iv = .int .i64 (i : Int) ∧ Hid (AoAt W c a k R e1 e2 e3 e4 (ringTo c o o.length ++ chTo c o i) wr)) (fun iv _ => c.chs.length - (intOf iv).toNat)
      case atStart => exact ⟨0, Nat.zero_le _, rfl, Lib.hid (by unfold chTo; simpa using X4.out)⟩
      case round =>
        clear X4
        obtain ⟨i, hi, rfl, HX⟩ := hrel
        by_cases hlt : i < c.chs.length
        · obtain ⟨b, off, rfl, hb, hc⟩ := (HA.out.below HX.out.bel).at (by omega)
          obtain ⟨x0, x1⟩ := ch_cells (hc i hlt)
          have hbd := HCh.out c.chs[i] (List.getElem_mem hlt)
          have HS := Lib.hid (chTo_succ c o i)
          have HG := Lib.hid (show chArcs c o i = stayArcs c o ((i : Int) + 1) (work c + c.chs[i].t) (work c + c.chs[i].t + c.chs[i].s) from by
            unfold chArcs; rw [List.getD_eq_getElem?_getD, List.getElem?_eq_getElem hlt]; rfl)
          rw [HG.out] at HS
          generalize c.chs[i] = y at *
          obtain ⟨t, s⟩ := y
          simp only at x0 x1 hbd HS
          have i0 : (0 : Int) ≤ (i : Int) := by omega
          have i1 : (i : Int) < (c.chs.length : Int) := by omega
          have d1 : IntKind.i64.wrap ((i : Int) + 1) = (i : Int) + 1 := IntWalk.i64_in _ (by omega)
          have d2 : IntKind.i64.wrap (work c + t) = work c + t := IntWalk.i64_in _ (by omega)
          have d3 : IntKind.i64.wrap (work c + t + s) = work c + t + s := IntWalk.i64_in _ (by omega)
          have HSl := Lib.hid (stayArcs_len c o ((i : Int) + 1) (work c + t) (work c + t + s))
          have hrl := ringTo_len c o o.length
          have hcl := chTo_len c o i
          have HLL := Lib.hid (show (ringTo c o o.length ++ chTo c o i).length ≤ 1000 from by rw [List.length_append]; omega)
          have HSS := Lib.hid (show ringTo c o o.length ++ chTo c o (i + 1) = (ringTo c o o.length ++ chTo c o i) ++ stayArcs c o ((i : Int) + 1) (work c + t) (work c + t + s) from by rw [HS.out, List.append_assoc])
          have X5 := Lib.hid (HX.out.below (below_new wr (.cells #[.int .i64 t, .int .i64 s] 60)))
          have HSy := Lib.hid (HSt.out o oa oc ((i : Int) + 1) (work c + t) (work c + t + s) (wr.alloc (.cells #[.int .i64 t, .int .i64 s] 60)) (by omega) (by omega) (HO.out.below X5.out.bel))
          have r3 : (wr.alloc (.cells #[.int .i64 t, .int .i64 s] 60)).cell? ⟨R, 3, none⟩ = some (fnV e4) := box_cell X5.out.rob 3 _ rfl
          generalize hL2 : ringTo c o o.length ++ chTo c o (i + 1) = L2 at HSS
          have HL2 := Lib.hid hL2
          clear hL2
          generalize ringTo c o o.length ++ chTo c o i = L1 at *
          generalize stayArcs c o ((i : Int) + 1) (work c + t) (work c + t + s) = S at *
          clear hc HS HG hbd hrl hcl HX
          go_wp2_with fail
          refine HSy.out.mono ?_
          rintro _ w6 ⟨sa, sc, rfl, h1, h2, h3⟩
          have X6 := Lib.hid (X5.out.below h3)
          have HAd := Lib.hid (add_any (W.heap.size + 1) (W.heap.size + 1) (Nat.le_refl _) L1 S ⟨HLL.out, by have := HSl.out; omega⟩ sa sc w6 X6.out.req h1 (by have := HSl.out; omega))
          clear h1 h2 h3 X5 HSy r3
          go_wp2_with fail
          refine HAd.out.mono ?_
          rintro _ w7 ⟨rfl, h1, h2, h3⟩
          have X7 := Lib.hid (X6.out.add hRn (by rw [← HSS.out] at h1; exact h1) h2 h3)
          clear h1 h2 h3 HAd X6 HSS
          go_wp2_with fail
          go_roundw
          case rel => exact ⟨i + 1, by omega, by go_num, by rw [HL2.out]; exact X7⟩
          case measure => simp [intOf]; omega
        · have i1 : ¬ (i : Int) < (c.chs.length : Int) := by omega
          obtain rfl : i = c.chs.length := by omega
          obtain ⟨v, h1, h2, -⟩ := HX.out.req
          have q0 : wr.cell? ⟨W.heap.size + 1, 0, none⟩ = some v := box_cell h1 0 _ rfl
          obtain ⟨va, vk, rfl, g1, g2⟩ := RowO.arg arc_len h2
          have G1 := Lib.hid g1; have G3 := Lib.hid h2
          have HB := Lib.hid HX.out.bel
          rw [← HEnd.out] at G1 G3 q0
          clear g1 g2 h1 h2 HX
          go_wp2_with fail
          go_ret
          exact ⟨va, vk, rfl, G1.out, fun x hx => by subst hx; have := G3.out.lt x.block rfl; omega, HB.out⟩
end Go.Proofs.Ytiolmcnngpaapaa
