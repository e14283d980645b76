/-
  The critical scenarios: what slowest returns.
  The critical scenarios: what lost returns.
  The critical scenarios: what widest returns.
-/
import Derived.Test.YtihohjgjklcnlaaDoorQBg
import Derived.Test.YtihohjgjklcnlaaDoorQBh
import Derived.BigRegion
namespace Go.Proofs.YtihohjgjklcnlaaDoor
open Go.RowKit

/-- What a call leaves that returns a scenario with lists of its own. -/
def ScPost (s : Pl.Scen) (w : World) (e : Ending) (w' : World) : Prop := ∃ da dc ma mc, e = .returned (ScenP.val ⟨s, da, dc, ma, mc⟩) ∧ IntsO w' w.heap.size (.slice da s.dur.length dc) s.dur ∧ IntsO w' w.heap.size (.slice ma s.mv.length mc) s.mv ∧ Below w.heap.size w w' ∧
  (∀ b, (Value.slice da s.dur.length dc).ownBlock = some b → (Value.slice ma s.mv.length mc).ownBlock ≠ some b)
set_option maxRecDepth 100000 in
set_option maxHeartbeats 2000000 in
theorem slowest_any (q : PlanP) (w : World) (h : q.ok w) (hn : q.p.st.length ≤ 8) : Calls Tryd.prog 61 #[q.val] w (ScPost (Pl.slowest q.p) w) := by
  have ls := hn
  clear hn
  have HQ := Lib.hid h
  clear h
  obtain ⟨⟨en, mi, ma, st, wn⟩, sa, sc, wa, wc⟩ := q
  simp only at ls
  have M0 : Hid (ChM w ⟨⟨en, mi, ma, st, wn⟩, sa, sc, wa, wc⟩ ⟨⟨[], [], ma, -1, 0⟩, none, 0, none, 0⟩ (((w.alloc (planObj ⟨⟨en, mi, ma, st, wn⟩, sa, sc, wa, wc⟩)).alloc zeroScen).alloc (scenObj ⟨⟨[], [], ma, -1, 0⟩, none, 0, none, 0⟩))) := Lib.hid (by
    have h1 := heap_alloc_new (w.alloc (planObj ⟨⟨en, mi, ma, st, wn⟩, sa, sc, wa, wc⟩)) zeroScen
    rw [show (w.alloc (planObj ⟨⟨en, mi, ma, st, wn⟩, sa, sc, wa, wc⟩)).heap.size = w.heap.size + 1 by simp] at h1
    have h2 := heap_alloc_new ((w.alloc (planObj ⟨⟨en, mi, ma, st, wn⟩, sa, sc, wa, wc⟩)).alloc zeroScen) (scenObj ⟨⟨[], [], ma, -1, 0⟩, none, 0, none, 0⟩)
    rw [show ((w.alloc (planObj ⟨⟨en, mi, ma, st, wn⟩, sa, sc, wa, wc⟩)).alloc zeroScen).heap.size = w.heap.size + 1 + 1 by simp] at h2
    exact ⟨box_below (box_below (heap_alloc_new _ _) (below_new _ _)) (below_new _ _), box_below h1 (below_new _ _), h2, RowO.nil _ _ _ _ _, RowO.nil _ _ _ _ _, fun b hb => by simp [Value.ownBlock] at hb, below_step (below_step (below_new _ _) (below_new _ _)) (below_new _ _)⟩)
  dsimp only [planObj, zeroScen, scenObj, List.length_nil] at M0
  go_enter Tryd.func61, Tryd.ntmps61
  go_upto_region 2 with (fail)
  generalize ((w.alloc (.cells #[.int .i64 en, .int .i64 mi, .int .i64 ma, .slice sa st.length sc, .slice wa wn.length wc] 28)).alloc (.cells #[.slice none 0 0, .slice none 0 0, .int .i64 0, .int .i64 0, .int .i64 0] 32)).alloc (.cells #[.slice none 0 0, .slice none 0 0, .int .i64 ma, .int .i64 (-1), .int .i64 0] 32) = wa0 at *
  have c3 := box_cell M0.out.pb 3 (.slice sa st.length sc) rfl
  go_wp2_with fail
  clear c3
  have HW := Lib.hid M0.out.bel.size
  obtain ⟨i0, hi0, hz0, hz1, hz2⟩ := info_parts info_int1
  go_loopg [12] st.length (fun g iv wr => ∃ (k : Nat) (da : Option Addr) (dc : Nat) (mb : Option Addr) (mc : Nat), k ≤ st.length ∧ g = st.length - k ∧ iv = .int .i64 (k : Int) ∧ Hid (ChM w ⟨⟨en, mi, ma, st, wn⟩, sa, sc, wa, wc⟩ ⟨⟨(st.take k).map (·.mx), (st.take k).map (fun _ => ma), ma, -1, 0⟩, da, dc, mb, mc⟩ wr))
  case atStart => exact ⟨0, none, 0, none, 0, by omega, by omega, rfl, by simpa using M0⟩
  case round =>
    clear M0
    obtain ⟨k, da, dc, mb, mc, hk, rfl, rfl, HM⟩ := hrel
    rename World => wr
    by_cases hlt : k < st.length
    · obtain ⟨b, off, rfl, hb, hc⟩ := (HQ.out.st.below HM.out.bel).at (show 0 < st.length by omega)
      obtain ⟨s0, s1, s2, s3, s4, s5⟩ := st_cells (hc k hlt)
      have HD := Lib.hid (show (st.take (k + 1)).map (·.mx) = (st.take k).map (·.mx) ++ [st[k].mx] by rw [List.take_succ_eq_append_getElem hlt, List.map_append]; rfl)
      have HV := Lib.hid (show (st.take (k + 1)).map (fun _ => ma) = (st.take k).map (fun _ => ma) ++ [ma] by rw [List.take_succ_eq_append_getElem hlt, List.map_append]; rfl)
      have hdl : ((st.take k).map (·.mx)).length ≤ 8 := by rw [List.length_map, List.length_take]; omega
      have hml : ((st.take k).map (fun _ => ma)).length ≤ 8 := by rw [List.length_map, List.length_take]; omega
      generalize (st.take k).map (·.mx) = D at *
      generalize (st.take k).map (fun _ => ma) = M at *
      clear hc
      generalize st[k] = x at *
      have i1 : (0 : Int) ≤ (k : Int) := by omega
      have i2 : (k : Int) < (st.length : Int) := by omega
      have i4 : ((k : Int)).toNat = k := by omega
      go_upto_region 5 with (fail)
      have HX := Lib.hid (heap_alloc_new wr (stageObj x))
      have HM1 := Lib.hid (HM.out.below (below_new wr (stageObj x)))
      have eL : wr.alloc (.cells #[.int .i64 x.mn, .int .i64 x.mx, .int .i64 x.m.tool, .int .i64 x.m.start, .int .i64 x.s.tool, .int .i64 x.s.start] 45) = wr.alloc (stageObj x) := rfl
      rw [eL]
      clear eL s0 s1 s2 s3 s4 s5 HM
      generalize wr.alloc (stageObj x) = w1 at *
      generalize wr.heap.size = nx at *
      have x1 := box_cell HX.out 1 (.int .i64 x.mx) rfl
      have d0 := box_cell HM1.out.sb 0 (.slice da D.length dc) rfl
      have HA := Lib.hid (below_new w1 (.cells #[.int .i64 x.mx] 3))
      have HOwn := Lib.hid (show (w1.alloc (.cells #[.int .i64 x.mx] 3)).ownsRow w.heap.size 3 1 (.slice da D.length dc) D.length (D.flatMap intCells) from own_below HM1.out.drow HA.out)
      have HNW := Lib.hid (World.news_of_block (w := w1.alloc (.cells #[.int .i64 x.mx] 3)) (B := w1.heap.size) (cs := #[.int .i64 x.mx]) (t := 3) (fr := (0, 0)) (heap_alloc_new w1 _))
      have hsw := HM1.out.bel.size
      go_wp2_with (at_builtin; refine wpList_append_lies _ rfl _ _ 30 rfl w.heap.size 3 i0 _ 1 8 Tryd.underlying30 hi0 hz0 hz1 hz2 rfl (by decide) _ _ _ rfl HOwn.out ⟨w1.heap.size, 0, none⟩ 1 1 [.int .i64 x.mx] rfl rfl HNW.out ?c2 (by decide) ?c3 ?c4 ?c5 (w1.heap.size + 1) ?c6 ?_)
      case c2 => simp [Value.oneCell']
      case c3 => unfold maxLen; omega
      case c4 => omega
      case c5 => omega
      intro g cap w3 hown' hgrow hnew hgl
      obtain ⟨h1, h2⟩ := HM1.out.dur x.mx HA.out (a' := some ⟨g, 0, none⟩) (c' := cap) hown' hgrow (fun kk hkk => by
        have : g = kk := by simpa [Value.ownBlock] using hkk
        subst this
        rcases hnew with h | h
        · exact .inl h
        · right; have := (below_new w1 (.cells #[.int .i64 x.mx] 3)).size; simp only [World.size_alloc] at *; omega)
      have HS := Lib.hid h2
      have HM2 := Lib.hid h1
      have HXk := Lib.hid hgrow
      clear hown' hgrow hnew h1 h2 HOwn HNW HA d0 x1
      have d0 := box_cell HS.out 0 (.slice da D.length dc) rfl
      have z0 := box_fz HS.out 0
      have hls := lt_of_block HS.out
      go_upto_region 6 with (fail)
      clear d0 z0 hls HS HXk
      generalize w3.setCell ⟨w.heap.size + 1 + 1, 0, none⟩ (.slice (some ⟨g, 0, none⟩) (D.length + 1) cap) = w4 at *
      have c2 := box_cell HM2.out.pb 2 (.int .i64 ma) rfl
      have d1 := box_cell HM2.out.sb 1 (.slice mb M.length mc) rfl
      have HA := Lib.hid (below_new w4 (.cells #[.int .i64 ma] 3))
      have HOwn := Lib.hid (show (w4.alloc (.cells #[.int .i64 ma] 3)).ownsRow w.heap.size 3 1 (.slice mb M.length mc) M.length (M.flatMap intCells) from own_below HM2.out.mrow HA.out)
      have HNW := Lib.hid (World.news_of_block (w := w4.alloc (.cells #[.int .i64 ma] 3)) (B := w4.heap.size) (cs := #[.int .i64 ma]) (t := 3) (fr := (0, 0)) (heap_alloc_new w4 _))
      have hsw4 := HM2.out.bel.size
      go_wp2_with (at_builtin; refine wpList_append_lies _ rfl _ _ 30 rfl w.heap.size 3 i0 _ 1 8 Tryd.underlying30 hi0 hz0 hz1 hz2 rfl (by decide) _ _ _ rfl HOwn.out ⟨w4.heap.size, 0, none⟩ 1 1 [.int .i64 ma] rfl rfl HNW.out ?e2 (by decide) ?e3 ?e4 ?e5 (w4.heap.size + 1) ?e6 ?_)
      case e2 => simp [Value.oneCell']
      case e3 => unfold maxLen; omega
      case e4 => omega
      case e5 => omega
      intro g2 cap2 w5 hown' hgrow hnew hgl2
      obtain ⟨h1, h2⟩ := HM2.out.mv ma HA.out (a' := some ⟨g2, 0, none⟩) (c' := cap2) hown' hgrow (fun kk hkk => by
        have : g2 = kk := by simpa [Value.ownBlock] using hkk
        subst this
        rcases hnew with h | h
        · exact .inl h
        · right; simp only [World.size_alloc]; omega)
      have HS := Lib.hid h2
      have HM3 := Lib.hid h1
      clear hown' hgrow hnew h1 h2 HOwn HNW HA d1 c2
      have d1 := box_cell HS.out 1 (.slice mb M.length mc) rfl
      have z1 := box_fz HS.out 1
      have hls := lt_of_block HS.out
      go_wp2_with fail
      go_roundg (st.length - (k + 1))
      case rel => exact ⟨k + 1, _, _, _, _, by omega, rfl, by go_num, Lib.hid (by rw [HD.out, HV.out]; exact HM3.out)⟩
      case measure => omega
    · obtain rfl : k = st.length := by omega
      rw [List.take_length] at HM
      have k1 : ¬ (st.length : Int) < (st.length : Int) := by omega
      have HE := Lib.hid (show Pl.slowest ⟨en, mi, ma, st, wn⟩ = ⟨st.map (·.mx), st.map (fun _ => ma), ma, -1, 0⟩ from rfl)
      generalize st.map (·.mx) = du at *
      generalize st.map (fun _ => ma) = mv at *
      have f0 := box_cell HM.out.sb 0 (.slice da du.length dc) rfl
      have f1 := box_cell HM.out.sb 1 (.slice mb mv.length mc) rfl
      have f2 := box_cell HM.out.sb 2 (.int .i64 ma) rfl
      have f3 := box_cell HM.out.sb 3 (.int .i64 (-1)) rfl
      have f4 := box_cell HM.out.sb 4 (.int .i64 0) rfl
      have r0 := box_cell HM.out.rb 0 (.slice none 0 0) rfl
      have r1 := box_cell HM.out.rb 1 (.slice none 0 0) rfl
      have r2 := box_cell HM.out.rb 2 (.int .i64 0) rfl
      have r3 := box_cell HM.out.rb 3 (.int .i64 0) rfl
      have r4 := box_cell HM.out.rb 4 (.int .i64 0) rfl
      have z0 := box_fz HM.out.rb 0
      have z1 := box_fz HM.out.rb 1
      have z2 := box_fz HM.out.rb 2
      have z3 := box_fz HM.out.rb 3
      have z4 := box_fz HM.out.rb 4
      have hlr := lt_of_block HM.out.rb
      obtain ⟨FE, FB⟩ := HM.out.done
      have HAp := HM.out.apart
      have HAp := Lib.hid HAp
      have FE := Lib.hid FE
      have FB := Lib.hid FB
      go_wp2_with fail
      clear f0 f1 f2 f3 f4 r0 r1 r2 r3 r4 z0 z1 z2 z3 z4 hlr
      generalize ((((wr.setCell ⟨w.heap.size + 1, 0, none⟩ (.slice da du.length dc)).setCell ⟨w.heap.size + 1, 1, none⟩ (.slice mb mv.length mc)).setCell ⟨w.heap.size + 1, 2, none⟩ (.int .i64 ma)).setCell ⟨w.heap.size + 1, 3, none⟩ (.int .i64 (-1))).setCell ⟨w.heap.size + 1, 4, none⟩ (.int .i64 0) = we at *
      have r0 := box_cell FB.out 0 (.slice da du.length dc) rfl
      have r1 := box_cell FB.out 1 (.slice mb mv.length mc) rfl
      have r2 := box_cell FB.out 2 (.int .i64 ma) rfl
      have r3 := box_cell FB.out 3 (.int .i64 (-1)) rfl
      have r4 := box_cell FB.out 4 (.int .i64 0) rfl
      refine bodyPost_ret (v := ScenP.val ⟨⟨du, mv, ma, -1, 0⟩, da, dc, mb, mc⟩) (by simp [results, Tryd.results61, go_sem, r0, r1, r2, r3, r4]) rfl ?_
      show ScPost (Pl.slowest ⟨en, mi, ma, st, wn⟩) w _ _
      unfold ScPost
      rw [HE.out]
      exact ⟨da, dc, mb, mc, rfl, FE.out.1, FE.out.2.1, FE.out.2.2, HAp.out⟩
end Go.Proofs.YtihohjgjklcnlaaDoor

namespace Go.Proofs.YtihohjgjklcnlaaDoor
open Go.RowKit

/-- A scenario stands in memory, its lists in rows of integers. -/
structure ScE (x : ScenP) (w : World) : Prop where
  ok : x.ok w
  dr : RowAt 0 3 w x.da
  mr : RowAt 0 3 w x.ma
theorem ScE.below {x : ScenP} {w w' : World} (h : ScE x w) (hb : Below w.heap.size w w') : ScE x w' := ⟨h.ok.below hb, h.dr.below hb, h.mr.below hb⟩
/-- A cell of a block of another kind is written. -/
theorem ScE.set {x : ScenP} {w : World} (h : ScE x w) {b : Nat} {cs : Array Value} {t : TypeId} (hb : w.heap[b]? = some (.cells cs t)) (ht : 3 ≠ t) (o : Nat) (u : Value) : ScE x (w.setCell ⟨b, o, none⟩ u) :=
  ⟨⟨h.ok.du.ch (one_ch w b o u) (fun y hy => h.dr.ne hb ht y hy), h.ok.mv.ch (one_ch w b o u) (fun y hy => h.mr.ne hb ht y hy)⟩, h.dr.set _ _ _, h.mr.set _ _ _⟩
/-- What a call leaves that returns a scenario. -/
def ScOk (s : Pl.Scen) (w : World) (e : Ending) (w' : World) : Prop := ∃ da dc ma mc, e = .returned (ScenP.val ⟨s, da, dc, ma, mc⟩) ∧ ScE ⟨s, da, dc, ma, mc⟩ w' ∧ Below w.heap.size w w'
abbrev copied (w : World) (rb : Nat) (r : ScenP) : World := ((((w.setCell ⟨rb, 0, none⟩ (.slice r.da r.s.dur.length r.dc)).setCell ⟨rb, 1, none⟩ (.slice r.ma r.s.mv.length r.mc)).setCell ⟨rb, 2, none⟩ (.int .i64 r.s.det)).setCell ⟨rb, 3, none⟩ (.int .i64 r.s.tool)).setCell ⟨rb, 4, none⟩ (.int .i64 r.s.at_)
/-- A scenario is copied into the result's box. -/
theorem copy_scen {r : ScenP} {w : World} {rb : Nat} (h : ScE r w) (hb : w.heap[rb]? = some zeroScen) : ScE r (copied w rb r) ∧ (copied w rb r).heap[rb]? = some (scenObj r) ∧ Ch (fun k => k = rb) w (copied w rb r) := by
  have hc : Ch (fun k => k = rb) w (copied w rb r) :=
    ((((one_ch w rb 0 _).trans (one_ch _ rb 1 _) (fun _ _ h => h)).trans (one_ch _ rb 2 _) (fun _ _ h => h)).trans (one_ch _ rb 3 _) (fun _ _ h => h)).trans (one_ch _ rb 4 _) (fun _ _ h => h)
  refine ⟨⟨⟨h.ok.du.ch hc (fun x hx => h.dr.ne hb (by decide) x hx), h.ok.mv.ch hc (fun x hx => h.mr.ne hb (by decide) x hx)⟩, ((((h.dr.set _ _ _).set _ _ _).set _ _ _).set _ _ _).set _ _ _, ((((h.mr.set _ _ _).set _ _ _).set _ _ _).set _ _ _).set _ _ _⟩, ?_, hc⟩
  rw [block_set (block_set (block_set (block_set (block_set hb (o := 0) _) (o := 1) _) (o := 2) _) (o := 3) _) (o := 4) _]
  rfl
theorem ScM.e {B n : Nat} {r : ScenP} {w : World} (h : ScM B n r w) : ScE r w := ⟨h.ok, h.dr.mono (Nat.zero_le _), h.mr.mono (Nat.zero_le _)⟩
set_option maxRecDepth 100000 in
set_option maxHeartbeats 2000000 in
theorem lost_any (q : PlanP) (x : Pl.Stage) (w : World) (h : q.ok w) (hn : q.p.st.length ≤ 8) (hx : Pl.OkStage x) : Calls Tryd.prog 62 #[q.val, stageV x] w (ScOk (Pl.lost q.p x) w) := by
  have hb3 := below_step (below_step (below_new w (planObj q)) (below_new _ (stageObj x))) (below_new _ zeroScen)
  have PB := Lib.hid (show (((w.alloc (planObj q)).alloc (stageObj x)).alloc zeroScen).heap[w.heap.size]? = some (planObj q) from box_below (box_below (heap_alloc_new _ _) (below_new _ _)) (below_new _ _))
  have XB := Lib.hid (show (((w.alloc (planObj q)).alloc (stageObj x)).alloc zeroScen).heap[w.heap.size + 1]? = some (stageObj x) by
    have := heap_alloc_new (w.alloc (planObj q)) (stageObj x)
    rw [World.size_alloc] at this
    exact box_below this (below_new _ _))
  have RB := Lib.hid (show (((w.alloc (planObj q)).alloc (stageObj x)).alloc zeroScen).heap[w.heap.size + 1 + 1]? = some zeroScen by
    have := heap_alloc_new ((w.alloc (planObj q)).alloc (stageObj x)) zeroScen
    rw [World.size_alloc, World.size_alloc] at this
    exact this)
  have HB := Lib.hid hb3
  have HQ := Lib.hid (h.below hb3)
  have o1 := hx.mn; have o2 := hx.mx; have o3 := hx.ms; have o4 := hx.top
  clear h hb3 hx
  obtain ⟨⟨en, mi, ma, st, wn⟩, sa, sc, wa, wc⟩ := q
  obtain ⟨mn, mx, ⟨mt, ms⟩, ⟨tt, ss⟩⟩ := x
  simp only at o1 o2 o3 o4
  dsimp only [planObj, zeroScen, stageObj] at PB XB RB HB HQ
  go_enter Tryd.func62, Tryd.ntmps62
  go_upto_region 1 with (fail)
  generalize ((w.alloc (.cells #[.int .i64 en, .int .i64 mi, .int .i64 ma, .slice sa st.length sc, .slice wa wn.length wc] 28)).alloc (.cells #[.int .i64 mn, .int .i64 mx, .int .i64 mt, .int .i64 ms, .int .i64 tt, .int .i64 ss] 45)).alloc (.cells #[.slice none 0 0, .slice none 0 0, .int .i64 0, .int .i64 0, .int .i64 0] 32) = w3 at *
  have c0 := box_cell PB.out 0 (.int .i64 en) rfl
  have c1 := box_cell PB.out 1 (.int .i64 mi) rfl
  have c2 := box_cell PB.out 2 (.int .i64 ma) rfl
  have c3 := box_cell PB.out 3 (.slice sa st.length sc) rfl
  have c4 := box_cell PB.out 4 (.slice wa wn.length wc) rfl
  go_wp2_with fail
  refine (slowest_any ⟨⟨en, mi, ma, st, wn⟩, sa, sc, wa, wc⟩ w3 HQ.out hn).mono ?_; rintro e w4 ⟨da, dc, mb, mc, rfl, d1, d2, g4, d3⟩
  clear c0 c1 c2 c3 c4
  go_upto_region 2 with (fail)
  have hb5 := below_step g4 (below_new w4 (scenObj ⟨Pl.slowest ⟨en, mi, ma, st, wn⟩, da, dc, mb, mc⟩))
  have MS := Lib.hid (ScM.new (r := ⟨Pl.slowest ⟨en, mi, ma, st, wn⟩, da, dc, mb, mc⟩) d1 d2 d3 g4.size)
  have X5 := Lib.hid (box_below XB.out hb5)
  have R5 := Lib.hid (box_below RB.out hb5)
  have G5 := Lib.hid (below_step HB.out hb5)
  have HLr := Lib.hid (lt_of_block RB.out)
  have eL : w4.alloc (.cells #[.slice da (Pl.slowest ⟨en, mi, ma, st, wn⟩).dur.length dc, .slice mb (Pl.slowest ⟨en, mi, ma, st, wn⟩).mv.length mc, .int .i64 (Pl.slowest ⟨en, mi, ma, st, wn⟩).det, .int .i64 (Pl.slowest ⟨en, mi, ma, st, wn⟩).tool, .int .i64 (Pl.slowest ⟨en, mi, ma, st, wn⟩).at_] 32) = w4.alloc (scenObj ⟨Pl.slowest ⟨en, mi, ma, st, wn⟩, da, dc, mb, mc⟩) := rfl
  rw [eL]
  clear eL d1 d2 d3 g4 hb5 PB XB RB HB
  generalize w4.alloc (scenObj ⟨Pl.slowest ⟨en, mi, ma, st, wn⟩, da, dc, mb, mc⟩) = w5 at *
  generalize w4.heap.size = n5 at *
  have HE := Lib.hid (show Pl.lost ⟨en, mi, ma, st, wn⟩ ⟨mn, mx, ⟨mt, ms⟩, ⟨tt, ss⟩⟩ = ⟨(Pl.slowest ⟨en, mi, ma, st, wn⟩).dur, (Pl.slowest ⟨en, mi, ma, st, wn⟩).mv, (Pl.slowest ⟨en, mi, ma, st, wn⟩).det, mt, ms + mx - 1⟩ from rfl)
  generalize Pl.slowest ⟨en, mi, ma, st, wn⟩ = s at *
  obtain ⟨du, mv, de, tl, at0⟩ := s
  simp only at HE
  have x1 := box_cell X5.out 1 (.int .i64 mx) rfl
  have x2 := box_cell X5.out 2 (.int .i64 mt) rfl
  have x3 := box_cell X5.out 3 (.int .i64 ms) rfl
  have k3 := box_cell MS.out.box 3 (.int .i64 tl) rfl
  have k4 := box_cell MS.out.box 4 (.int .i64 at0) rfl
  have z3 := box_fz MS.out.box 3
  have z4 := box_fz MS.out.box 4
  have hls := lt_of_block MS.out.box
  have r1 : IntKind.i64.wrap (ms + mx) = ms + mx := IntWalk.i64_in _ (by omega)
  have r2 : IntKind.i64.wrap (ms + mx - 1) = ms + mx - 1 := IntWalk.i64_in _ (by omega)
  have hne1 : ¬ w.heap.size + 1 = n5 := ne_of_kind X5.out MS.out.box (by decide)
  have hne2 : ¬ n5 = w.heap.size + 1 := fun e => hne1 e.symm
  go_region
  obtain ⟨m3, ch3⟩ := MS.out.num (o := 3) (u := .int .i64 mt) (de' := de) (tl' := mt) (at' := at0) rfl
  obtain ⟨m4, ch4⟩ := m3.num (o := 4) (u := .int .i64 (ms + mx - 1)) (de' := de) (tl' := mt) (at' := ms + mx - 1) rfl
  have hch : Ch (fun k => k = n5) w5 ((w5.setCell ⟨n5, 3, none⟩ (.int .i64 mt)).setCell ⟨n5, 4, none⟩ (.int .i64 (ms + mx - 1))).drew := (ch3.trans ch4 (fun _ _ h => h)).drewN 1
  have M6 := Lib.hid (m4.below (Below.refl _ _).drew)
  have R6 := Lib.hid (show ((w5.setCell ⟨n5, 3, none⟩ (.int .i64 mt)).setCell ⟨n5, 4, none⟩ (.int .i64 (ms + mx - 1))).drew.heap[w.heap.size + 1 + 1]? = some zeroScen from (hch.block _ (lt_of_block R5.out) (by have := HLr.out; have := MS.out.hi; omega)).trans R5.out)
  have G6 := Lib.hid (G5.out.trans (hch.below G5.out.size (fun k hk => by have := HLr.out; have := MS.out.hi; omega)))
  clear m3 m4 ch3 ch4 hch x1 x2 x3 k3 k4 z3 z4 hls r1 r2 MS X5 R5 G5 hne1 hne2 HLr
  go_upto_region 3 with (fail)
  generalize ((w5.setCell ⟨n5, 3, none⟩ (.int .i64 mt)).setCell ⟨n5, 4, none⟩ (.int .i64 (ms + mx - 1))).drew = w6 at *
  generalize ms + mx - 1 = at1 at *
  obtain ⟨F1, F2, F3⟩ := copy_scen M6.out.e R6.out
  have F1 := Lib.hid F1; have F2 := Lib.hid F2
  have G7 := Lib.hid (G6.out.trans (F3.below G6.out.size (fun k hk => by omega)))
  have f0 := box_cell M6.out.box 0 (.slice da du.length dc) rfl
  have f1 := box_cell M6.out.box 1 (.slice mb mv.length mc) rfl
  have f2 := box_cell M6.out.box 2 (.int .i64 de) rfl
  have f3 := box_cell M6.out.box 3 (.int .i64 mt) rfl
  have f4 := box_cell M6.out.box 4 (.int .i64 at1) rfl
  have r0 := box_cell R6.out 0 (.slice none 0 0) rfl
  have r1 := box_cell R6.out 1 (.slice none 0 0) rfl
  have r2 := box_cell R6.out 2 (.int .i64 0) rfl
  have r3 := box_cell R6.out 3 (.int .i64 0) rfl
  have r4 := box_cell R6.out 4 (.int .i64 0) rfl
  have z0 := box_fz R6.out 0
  have z1 := box_fz R6.out 1
  have z2 := box_fz R6.out 2
  have z3 := box_fz R6.out 3
  have z4 := box_fz R6.out 4
  have hlr := lt_of_block R6.out
  go_wp2_with fail
  clear f0 f1 f2 f3 f4 r0 r1 r2 r3 r4 z0 z1 z2 z3 z4 hlr F3
  dsimp only [copied] at F1 F2 G7
  generalize ((((w6.setCell ⟨w.heap.size + 1 + 1, 0, none⟩ (.slice da du.length dc)).setCell ⟨w.heap.size + 1 + 1, 1, none⟩ (.slice mb mv.length mc)).setCell ⟨w.heap.size + 1 + 1, 2, none⟩ (.int .i64 de)).setCell ⟨w.heap.size + 1 + 1, 3, none⟩ (.int .i64 mt)).setCell ⟨w.heap.size + 1 + 1, 4, none⟩ (.int .i64 at1) = we at *
  have r0 := box_cell F2.out 0 (.slice da du.length dc) rfl
  have r1 := box_cell F2.out 1 (.slice mb mv.length mc) rfl
  have r2 := box_cell F2.out 2 (.int .i64 de) rfl
  have r3 := box_cell F2.out 3 (.int .i64 mt) rfl
  have r4 := box_cell F2.out 4 (.int .i64 at1) rfl
  refine bodyPost_ret (v := ScenP.val ⟨⟨du, mv, de, mt, at1⟩, da, dc, mb, mc⟩) (by simp [results, Tryd.results62, go_sem, r0, r1, r2, r3, r4]) rfl ?_
  show ScOk (Pl.lost ⟨en, mi, ma, st, wn⟩ ⟨mn, mx, ⟨mt, ms⟩, ⟨tt, ss⟩⟩) w _ _
  unfold ScOk
  rw [HE.out]
  exact ⟨da, dc, mb, mc, rfl, F1.out, G7.out⟩
end Go.Proofs.YtihohjgjklcnlaaDoor

namespace Go.Proofs.YtihohjgjklcnlaaDoor
open Go.RowKit

set_option maxRecDepth 100000 in
set_option maxHeartbeats 2000000 in
theorem widest_any (q : PlanP) (x : Pl.Win) (w : World) (h : q.ok w) (hn : q.p.st.length ≤ 8) (hx : Pl.OkWin q.p.st.length x) : Calls Tryd.prog 63 #[q.val, winV x] w (ScOk (Pl.widest q.p x) w) := by
  have hb3 := below_step (below_step (below_new w (planObj q)) (below_new _ (winObj x))) (below_new _ zeroScen)
  have PB := Lib.hid (show (((w.alloc (planObj q)).alloc (winObj x)).alloc zeroScen).heap[w.heap.size]? = some (planObj q) from box_below (box_below (heap_alloc_new _ _) (below_new _ _)) (below_new _ _))
  have XB := Lib.hid (show (((w.alloc (planObj q)).alloc (winObj x)).alloc zeroScen).heap[w.heap.size + 1]? = some (winObj x) by
    have := heap_alloc_new (w.alloc (planObj q)) (winObj x)
    rw [World.size_alloc] at this
    exact box_below this (below_new _ _))
  have RB := Lib.hid (show (((w.alloc (planObj q)).alloc (winObj x)).alloc zeroScen).heap[w.heap.size + 1 + 1]? = some zeroScen by
    have := heap_alloc_new ((w.alloc (planObj q)).alloc (winObj x)) zeroScen
    rw [World.size_alloc, World.size_alloc] at this
    exact this)
  have HB := Lib.hid hb3
  have HQ := Lib.hid (h.below hb3)
  have o1 := hx.f; have o2 := hx.ft; have o3 := hx.t
  clear h hb3 hx
  obtain ⟨⟨en, mi, ma, st, wn⟩, sa, sc, wa, wc⟩ := q
  obtain ⟨xf, xt, xl⟩ := x
  simp only at o1 o2 o3 hn
  obtain ⟨f, rfl⟩ := Int.eq_ofNat_of_zero_le o1
  obtain ⟨b, rfl⟩ := Int.eq_ofNat_of_zero_le (show 0 ≤ xt by omega)
  have hfl : f < st.length := by omega
  have hbl : b < st.length := by omega
  have HE := Lib.hid (show Pl.widest ⟨en, mi, ma, st, wn⟩ ⟨f, b, xl⟩ = ⟨(Pl.slowest ⟨en, mi, ma, st, wn⟩).dur.set f st[f].mn, (Pl.slowest ⟨en, mi, ma, st, wn⟩).mv, (Pl.slowest ⟨en, mi, ma, st, wn⟩).det, st[b].m.tool, st[b].m.start⟩ by
    unfold Pl.widest
    simp only [Pl.stN_at (p := ⟨en, mi, ma, st, wn⟩) hfl, Pl.stN_at (p := ⟨en, mi, ma, st, wn⟩) hbl, Int.toNat_natCast]
    rfl)
  have HDl := Lib.hid (show (Pl.slowest ⟨en, mi, ma, st, wn⟩).dur.length = st.length from List.length_map ..)
  dsimp only [planObj, zeroScen, winObj] at PB XB RB HB HQ
  go_enter Tryd.func63, Tryd.ntmps63
  go_upto_region 1 with (fail)
  generalize ((w.alloc (.cells #[.int .i64 en, .int .i64 mi, .int .i64 ma, .slice sa st.length sc, .slice wa wn.length wc] 28)).alloc (.cells #[.int .i64 (f : Int), .int .i64 (b : Int), .int .i64 xl] 49)).alloc (.cells #[.slice none 0 0, .slice none 0 0, .int .i64 0, .int .i64 0, .int .i64 0] 32) = w3 at *
  have c0 := box_cell PB.out 0 (.int .i64 en) rfl
  have c1 := box_cell PB.out 1 (.int .i64 mi) rfl
  have c2 := box_cell PB.out 2 (.int .i64 ma) rfl
  have c3 := box_cell PB.out 3 (.slice sa st.length sc) rfl
  have c4 := box_cell PB.out 4 (.slice wa wn.length wc) rfl
  go_wp2_with fail
  refine (slowest_any ⟨⟨en, mi, ma, st, wn⟩, sa, sc, wa, wc⟩ w3 HQ.out hn).mono ?_; rintro e w4 ⟨da, dc, mb, mc, rfl, d1, d2, g4, d3⟩
  clear c0 c1 c2 c3 c4
  go_upto_region 2 with (fail)
  have hb5 := below_step g4 (below_new w4 (scenObj ⟨Pl.slowest ⟨en, mi, ma, st, wn⟩, da, dc, mb, mc⟩))
  have MS := Lib.hid (ScM.new (r := ⟨Pl.slowest ⟨en, mi, ma, st, wn⟩, da, dc, mb, mc⟩) d1 d2 d3 g4.size)
  have X5 := Lib.hid (box_below XB.out hb5)
  have P5 := Lib.hid (box_below PB.out hb5)
  have Q5 := Lib.hid (HQ.out.below hb5)
  have HB35 := Lib.hid hb5
  have R5 := Lib.hid (box_below RB.out hb5)
  have G5 := Lib.hid (below_step HB.out hb5)
  have HLr := Lib.hid (lt_of_block RB.out)
  have eL : w4.alloc (.cells #[.slice da (Pl.slowest ⟨en, mi, ma, st, wn⟩).dur.length dc, .slice mb (Pl.slowest ⟨en, mi, ma, st, wn⟩).mv.length mc, .int .i64 (Pl.slowest ⟨en, mi, ma, st, wn⟩).det, .int .i64 (Pl.slowest ⟨en, mi, ma, st, wn⟩).tool, .int .i64 (Pl.slowest ⟨en, mi, ma, st, wn⟩).at_] 32) = w4.alloc (scenObj ⟨Pl.slowest ⟨en, mi, ma, st, wn⟩, da, dc, mb, mc⟩) := rfl
  rw [eL]
  clear eL d1 d2 d3 g4 hb5
  generalize w4.alloc (scenObj ⟨Pl.slowest ⟨en, mi, ma, st, wn⟩, da, dc, mb, mc⟩) = w5 at *
  generalize w4.heap.size = n5 at *
  generalize Pl.slowest ⟨en, mi, ma, st, wn⟩ = s at *
  obtain ⟨du, mv, de, tl, at0⟩ := s
  simp only at HE HDl
  have hdf : f < du.length := by rw [HDl.out]; exact hfl
  obtain ⟨gd, gdo, rfl, hgd, hgc⟩ := MS.out.ok.du.at (show 0 < du.length by omega)
  obtain ⟨g, cs, e, hgB, hcs⟩ := MS.out.dr _ rfl
  injection e with e1 e2
  subst e1; subst e2
  have d0 := hgc f hdf 0 (.int .i64 du[f]) rfl
  simp only [Nat.zero_add, Nat.add_zero, Nat.mul_one] at d0
  generalize du[f] = old at d0
  have zd := box_fz hcs f
  have hgl := lt_of_block hcs
  obtain ⟨sb, so, rfl, hsb, hsc3⟩ := HQ.out.st.at (show 0 < st.length by omega)
  have hsc := fun i h j v hv => cell_below HB35.out (hsc3 i h j v hv)
  have s1 := hsc f hfl 0 (.int .i64 st[f].mn) rfl
  have S2 := Lib.hid (hsc3 b hbl 2 (.int .i64 st[b].m.tool) rfl)
  have S3 := Lib.hid (hsc3 b hbl 3 (.int .i64 st[b].m.start) rfl)
  simp only [Nat.add_zero] at s1
  have MS6 := Lib.hid (MS.out.dura (i := f) hdf st[f].mn rfl)
  simp only [Nat.zero_add, Nat.add_zero, Nat.mul_one] at MS6
  generalize st[f].mn = smn at *
  generalize st[b].m.tool = mt at *
  generalize st[b].m.start = ms at *
  have x0 := box_cell X5.out 0 (.int .i64 (f : Int)) rfl
  have x1 := box_cell X5.out 1 (.int .i64 (b : Int)) rfl
  have c3 := box_cell P5.out 3 (.slice (some ⟨sb, so, none⟩) st.length sc) rfl
  have k0 := box_cell MS.out.box 0 (.slice (some ⟨gd, 0, none⟩) du.length dc) rfl
  have i1 : (0 : Int) ≤ (f : Int) := by omega
  have i2 : (f : Int) < (st.length : Int) := by omega
  have i3 : (f : Int) < (du.length : Int) := by omega
  have i4 : ((f : Int)).toNat = f := by omega
  clear hgc hsc hsc3 hcs
  go_still_tail 12, (by kernel_rfl)
  change wpList _ _ _ _ _ (World.drew _)
  go_upto_region 3 with (fail)
  have hch : Ch (fun k => k = gd) w5 (w5.setCell ⟨gd, f, none⟩ (.int .i64 smn)).drew := MS6.out.2.drewN 1
  have HB36 := Lib.hid (HB35.out.trans (hch.below HB35.out.size (fun k hk => by omega)))
  have M6 := Lib.hid (MS6.out.1.below (Below.refl _ _).drew)
  clear hch d0 zd hgl s1 x0 x1 c3 k0 i1 i2 i3 i4 MS MS6 X5 P5 Q5 R5 G5 HB35
  generalize (w5.setCell ⟨gd, f, none⟩ (.int .i64 smn)).drew = w6 at *
  have s2 := cell_below HB36.out S2.out
  have s3 := cell_below HB36.out S3.out
  have x1 := box_cell (box_below XB.out HB36.out) 1 (.int .i64 (b : Int)) rfl
  have c3 := box_cell (box_below PB.out HB36.out) 3 (.slice (some ⟨sb, so, none⟩) st.length sc) rfl
  have i1 : (0 : Int) ≤ (b : Int) := by omega
  have i2 : (b : Int) < (st.length : Int) := by omega
  have i4 : ((b : Int)).toNat = b := by omega
  go_upto_region 4 with (fail)
  have hb7 := below_new w6 (.cells #[.int .i64 mt, .int .i64 ms] 43)
  have NM := Lib.hid (heap_alloc_new w6 (.cells #[.int .i64 mt, .int .i64 ms] 43))
  have M7 := Lib.hid (M6.out.below hb7)
  have HB37 := Lib.hid (below_step HB36.out hb7)
  clear hb7 s2 s3 x1 c3 i1 i2 i4 M6 HB36 S2 S3
  generalize w6.alloc (.cells #[.int .i64 mt, .int .i64 ms] 43) = w7 at *
  generalize w6.heap.size = n6 at *
  have y0 := box_cell NM.out 0 (.int .i64 mt) rfl
  have y1 := box_cell NM.out 1 (.int .i64 ms) rfl
  have k3 := box_cell M7.out.box 3 (.int .i64 tl) rfl
  have k4 := box_cell M7.out.box 4 (.int .i64 at0) rfl
  have z3 := box_fz M7.out.box 3
  have z4 := box_fz M7.out.box 4
  have hls := lt_of_block M7.out.box
  have hne1 : ¬ n6 = n5 := ne_of_kind NM.out M7.out.box (by decide)
  have hne2 : ¬ n5 = n6 := fun e => hne1 e.symm
  go_region
  obtain ⟨m3, ch3⟩ := M7.out.num (o := 3) (u := .int .i64 mt) (de' := de) (tl' := mt) (at' := at0) rfl
  obtain ⟨m4, ch4⟩ := m3.num (o := 4) (u := .int .i64 ms) (de' := de) (tl' := mt) (at' := ms) rfl
  have hch : Ch (fun k => k = n5) w7 ((w7.setCell ⟨n5, 3, none⟩ (.int .i64 mt)).setCell ⟨n5, 4, none⟩ (.int .i64 ms)).drew := (ch3.trans ch4 (fun _ _ h => h)).drewN 1
  have M8 := Lib.hid (m4.below (Below.refl _ _).drew)
  have HB38 := Lib.hid (HB37.out.trans (hch.below HB37.out.size (fun k hk => by have := M7.out.hi; omega)))
  clear m3 m4 ch3 ch4 hch y0 y1 k3 k4 z3 z4 hls M7 HB37 hne1 hne2
  go_upto_region 5 with (fail)
  generalize ((w7.setCell ⟨n5, 3, none⟩ (.int .i64 mt)).setCell ⟨n5, 4, none⟩ (.int .i64 ms)).drew = w8 at *
  have R8 := Lib.hid (box_below RB.out HB38.out)
  have G8 := Lib.hid (below_step HB.out HB38.out)
  obtain ⟨F1, F2, F3⟩ := copy_scen M8.out.e R8.out
  have F1 := Lib.hid F1; have F2 := Lib.hid F2
  have G9 := Lib.hid (G8.out.trans (F3.below G8.out.size (fun k hk => by omega)))
  have HDs := Lib.hid (show (du.set f smn).length = du.length from List.length_set ..)
  generalize du.set f smn = dv at *
  have f0 := box_cell M8.out.box 0 (.slice (some ⟨gd, 0, none⟩) dv.length dc) rfl
  have f1 := box_cell M8.out.box 1 (.slice mb mv.length mc) rfl
  have f2 := box_cell M8.out.box 2 (.int .i64 de) rfl
  have f3 := box_cell M8.out.box 3 (.int .i64 mt) rfl
  have f4 := box_cell M8.out.box 4 (.int .i64 ms) rfl
  have r0 := box_cell R8.out 0 (.slice none 0 0) rfl
  have r1 := box_cell R8.out 1 (.slice none 0 0) rfl
  have r2 := box_cell R8.out 2 (.int .i64 0) rfl
  have r3 := box_cell R8.out 3 (.int .i64 0) rfl
  have r4 := box_cell R8.out 4 (.int .i64 0) rfl
  have z0 := box_fz R8.out 0
  have z1 := box_fz R8.out 1
  have z2 := box_fz R8.out 2
  have z3 := box_fz R8.out 3
  have z4 := box_fz R8.out 4
  have hlr := lt_of_block R8.out
  go_wp2_with fail
  clear f0 f1 f2 f3 f4 r0 r1 r2 r3 r4 z0 z1 z2 z3 z4 hlr F3
  dsimp only [copied] at F1 F2 G9
  generalize ((((w8.setCell ⟨w.heap.size + 1 + 1, 0, none⟩ (.slice (some ⟨gd, 0, none⟩) dv.length dc)).setCell ⟨w.heap.size + 1 + 1, 1, none⟩ (.slice mb mv.length mc)).setCell ⟨w.heap.size + 1 + 1, 2, none⟩ (.int .i64 de)).setCell ⟨w.heap.size + 1 + 1, 3, none⟩ (.int .i64 mt)).setCell ⟨w.heap.size + 1 + 1, 4, none⟩ (.int .i64 ms) = we at *
  have r0 := box_cell F2.out 0 (.slice (some ⟨gd, 0, none⟩) dv.length dc) rfl
  have r1 := box_cell F2.out 1 (.slice mb mv.length mc) rfl
  have r2 := box_cell F2.out 2 (.int .i64 de) rfl
  have r3 := box_cell F2.out 3 (.int .i64 mt) rfl
  have r4 := box_cell F2.out 4 (.int .i64 ms) rfl
  refine bodyPost_ret (v := ScenP.val ⟨⟨dv, mv, de, mt, ms⟩, some ⟨gd, 0, none⟩, dc, mb, mc⟩) (by simp [results, Tryd.results63, go_sem, r0, r1, r2, r3, r4]) rfl ?_
  show ScOk (Pl.widest ⟨en, mi, ma, st, wn⟩ ⟨f, b, xl⟩) w _ _
  unfold ScOk
  rw [HE.out]
  exact ⟨_, _, _, _, rfl, F1.out, G9.out⟩
end Go.Proofs.YtihohjgjklcnlaaDoor
