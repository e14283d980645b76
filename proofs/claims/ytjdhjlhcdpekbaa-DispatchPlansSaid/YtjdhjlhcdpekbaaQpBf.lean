/-
  The contract of the reference's Chosen.
-/
import Derived.Test.YtjdhjlhcdpekbaaQpBc
import Derived.Lib.MinMax
namespace Go.Proofs.Ytjdhjlhcdpekbaa.Pe
open Go.RowKit

theorem st_getD {w : World} {a : Option Addr} {c : Nat} {L : List Pl.Stage} (h : StA w a c L) {i : Nat} (hi : i < L.length) : ∃ b off : Nat, a = some ⟨b, off, none⟩ ∧ b < w.heap.size ∧
    w.cell? ⟨b, off + i * 6, none⟩ = some (.int .i64 (L.getD i Pl.stage0).mn) ∧ w.cell? ⟨b, off + i * 6 + 1, none⟩ = some (.int .i64 (L.getD i Pl.stage0).mx) ∧ w.cell? ⟨b, off + i * 6 + 2, none⟩ = some (.int .i64 (L.getD i Pl.stage0).m.tool) ∧ w.cell? ⟨b, off + i * 6 + 3, none⟩ = some (.int .i64 (L.getD i Pl.stage0).m.start) ∧
    w.cell? ⟨b, off + i * 6 + 4, none⟩ = some (.int .i64 (L.getD i Pl.stage0).s.tool) ∧ w.cell? ⟨b, off + i * 6 + 5, none⟩ = some (.int .i64 (L.getD i Pl.stage0).s.start) := by
  obtain ⟨b, off, rfl, hb, hc⟩ := h.2.2 i hi
  have e : L.getD i Pl.stage0 = L[i] := by rw [List.getD_eq_getElem?_getD, List.getElem?_eq_getElem hi]; rfl
  rw [e]
  exact ⟨b, off, rfl, hb, st_cells hc⟩
theorem ChM.done {w0 w : World} {q : PlanP} {du mv : List Int} {de tl at_ : Int} {da ma : Option Addr} {dc mc : Nat} (h : ChM w0 q ⟨⟨du, mv, de, tl, at_⟩, da, dc, ma, mc⟩ w) :
    (IntsO (((((w.setCell ⟨w0.heap.size + 1, 0, none⟩ (.slice da du.length dc)).setCell ⟨w0.heap.size + 1, 1, none⟩ (.slice ma mv.length mc)).setCell ⟨w0.heap.size + 1, 2, none⟩ (.int .i64 de)).setCell ⟨w0.heap.size + 1, 3, none⟩ (.int .i64 tl)).setCell ⟨w0.heap.size + 1, 4, none⟩ (.int .i64 at_)) w0.heap.size (.slice da du.length dc) du ∧
      IntsO (((((w.setCell ⟨w0.heap.size + 1, 0, none⟩ (.slice da du.length dc)).setCell ⟨w0.heap.size + 1, 1, none⟩ (.slice ma mv.length mc)).setCell ⟨w0.heap.size + 1, 2, none⟩ (.int .i64 de)).setCell ⟨w0.heap.size + 1, 3, none⟩ (.int .i64 tl)).setCell ⟨w0.heap.size + 1, 4, none⟩ (.int .i64 at_)) w0.heap.size (.slice ma mv.length mc) mv ∧
      Below w0.heap.size w0 (((((w.setCell ⟨w0.heap.size + 1, 0, none⟩ (.slice da du.length dc)).setCell ⟨w0.heap.size + 1, 1, none⟩ (.slice ma mv.length mc)).setCell ⟨w0.heap.size + 1, 2, none⟩ (.int .i64 de)).setCell ⟨w0.heap.size + 1, 3, none⟩ (.int .i64 tl)).setCell ⟨w0.heap.size + 1, 4, none⟩ (.int .i64 at_))) ∧
    (((((w.setCell ⟨w0.heap.size + 1, 0, none⟩ (.slice da du.length dc)).setCell ⟨w0.heap.size + 1, 1, none⟩ (.slice ma mv.length mc)).setCell ⟨w0.heap.size + 1, 2, none⟩ (.int .i64 de)).setCell ⟨w0.heap.size + 1, 3, none⟩ (.int .i64 tl)).setCell ⟨w0.heap.size + 1, 4, none⟩ (.int .i64 at_)).heap[w0.heap.size + 1]? = some (scenObj ⟨⟨du, mv, de, tl, at_⟩, da, dc, ma, mc⟩) := by
  have one : ∀ (v : World) (o : Nat) (u : Value), Ch (fun k => k = w0.heap.size + 1) v (v.setCell ⟨w0.heap.size + 1, o, none⟩ u) := fun v o u => Ch.grown (grown_set (w := v) _ o _) (fun k hk => by injection hk with hk; exact hk.symm)
  have hc := ((((one w 0 (.slice da du.length dc)).trans (one _ 1 (.slice ma mv.length mc)) (fun _ _ h => h)).trans (one _ 2 (.int .i64 de)) (fun _ _ h => h)).trans (one _ 3 (.int .i64 tl)) (fun _ _ h => h)).trans (one _ 4 (.int .i64 at_)) (fun _ _ h => h)
  have hn := h.ne h.rb (by decide)
  refine ⟨⟨own_ch h.drow hc (fun k hk => hn.1 k hk), own_ch h.mrow hc (fun k hk => hn.2 k hk), ?_⟩, ?_⟩
  · have up : ∀ (v : World) (o : Nat) (u : Value), Below w0.heap.size w0 v → Below w0.heap.size w0 (v.setCell ⟨w0.heap.size + 1, o, none⟩ u) := fun v o u hv => hv.setCell (p := ⟨w0.heap.size + 1, o, none⟩) (Nat.le_succ _) u
    exact up _ _ _ (up _ _ _ (up _ _ _ (up _ _ _ (up _ _ _ h.bel))))
  · rw [block_set (block_set (block_set (block_set (block_set h.rb (o := 0) (.slice da du.length dc)) (o := 1) (.slice ma mv.length mc)) (o := 2) (.int .i64 de)) (o := 3) (.int .i64 tl)) (o := 4) (.int .i64 at_)]; rfl
/-- What Chosen answers. -/
def ChPost (p : Pl.Plan) (Y : List (List Int)) (tool at_ : Int) (w : World) (e : Ending) (w' : World) : Prop := ∃ da dc ma mc, e = .returned (ScenP.val ⟨Pl.chosen p Y tool at_, da, dc, ma, mc⟩) ∧ IntsO w' w.heap.size (.slice da (Pl.chosen p Y tool at_).dur.length dc) (Pl.chosen p Y tool at_).dur ∧
  IntsO w' w.heap.size (.slice ma (Pl.chosen p Y tool at_).mv.length mc) (Pl.chosen p Y tool at_).mv ∧ Below w.heap.size w w' ∧ (∀ b, (Value.slice da (Pl.chosen p Y tool at_).dur.length dc).ownBlock = some b → (Value.slice ma (Pl.chosen p Y tool at_).mv.length mc).ownBlock ≠ some b)
set_option maxRecDepth 100000 in
set_option maxHeartbeats 4000000 in
theorem Chosen_any (q : PlanP) (Y : List (List Int)) (ya : Option Addr) (yc : Nat) (tool at_ : Int) (w : World) (hq : q.ok w) (hf : Pl.Fine q.p) (hY : ArrsA 2 w ya yc Y) (ft : Fits tool) (fa : Fits at_) :
    Calls Try.prog 36 #[q.val, .slice ya Y.length yc, .int .i64 tool, .int .i64 at_] w (ChPost q.p Y tool at_ w) := by
  have ly : Y.length ≤ maxLen := Nat.le_trans hY.1 hY.2.1
  have ls := hq.st.len
  unfold maxLen at ly ls
  have HY := Lib.hid hY; have HQ := Lib.hid hq; have HF := Lib.hid hf
  have hn := hf.v.len; have hn5 := hf.n; have hmm := hf.v.mmin; have hm11 := hf.m
  clear hY hq hf
  obtain ⟨⟨en, mi, ma, st, wn⟩, sa, sc, wa, wc⟩ := q
  simp only at ls hn hn5 hmm hm11
  obtain ⟨hmi, hmx⟩ := hmm
  have M0 : Hid (ChM w ⟨⟨en, mi, ma, st, wn⟩, sa, sc, wa, wc⟩ ⟨⟨[], [], mi, -1, 0⟩, none, 0, none, 0⟩ (((w.alloc (planObj ⟨⟨en, mi, ma, st, wn⟩, sa, sc, wa, wc⟩)).alloc zeroScen).alloc (scenObj ⟨⟨[], [], mi, -1, 0⟩, none, 0, none, 0⟩))) := Lib.hid (by
    have h1 := heap_alloc_new (w.alloc (planObj ⟨⟨en, mi, ma, st, wn⟩, sa, sc, wa, wc⟩)) zeroScen
    rw [show (w.alloc (planObj ⟨⟨en, mi, ma, st, wn⟩, sa, sc, wa, wc⟩)).heap.size = w.heap.size + 1 by simp] at h1
    have h2 := heap_alloc_new ((w.alloc (planObj ⟨⟨en, mi, ma, st, wn⟩, sa, sc, wa, wc⟩)).alloc zeroScen) (scenObj ⟨⟨[], [], mi, -1, 0⟩, none, 0, none, 0⟩)
    rw [show ((w.alloc (planObj ⟨⟨en, mi, ma, st, wn⟩, sa, sc, wa, wc⟩)).alloc zeroScen).heap.size = w.heap.size + 1 + 1 by simp] at h2
    exact ⟨box_below (box_below (heap_alloc_new _ _) (below_new _ _)) (below_new _ _), box_below h1 (below_new _ _), h2, RowO.nil _ _ _ _ _, RowO.nil _ _ _ _ _, fun b hb => by simp [Value.ownBlock] at hb, below_step (below_step (below_new _ _) (below_new _ _)) (below_new _ _)⟩)
  dsimp only [planObj, zeroScen, scenObj, List.length_nil] at M0
  have e1 : IntKind.i64.wrap (ma - mi) = ma - mi := IntWalk.i64_in _ (by omega)
  have e2 : IntKind.i64.wrap (ma - mi + 1) = ma - mi + 1 := IntWalk.i64_in _ (by omega)
  go_enter Try.func36, Try.ntmps36
  go_upto_if 18 with (fail)
  generalize ((w.alloc (.cells #[.int .i64 en, .int .i64 mi, .int .i64 ma, .slice sa st.length sc, .slice wa wn.length wc] 64)).alloc (.cells #[.slice none 0 0, .slice none 0 0, .int .i64 0, .int .i64 0, .int .i64 0] 67)).alloc (.cells #[.slice none 0 0, .slice none 0 0, .int .i64 mi, .int .i64 (-1), .int .i64 0] 67) = wa0 at *
  go_cut [] (fun wx => Hid (ChM w ⟨⟨en, mi, ma, st, wn⟩, sa, sc, wa, wc⟩ ⟨⟨[], [], Pl.chDet ⟨en, mi, ma, st, wn⟩ Y, -1, 0⟩, none, 0, none, 0⟩ wx))
  case first =>
    by_cases h0 : 0 < Y.length
    · obtain ⟨b, off, rfl, hb, ⟨c0, -⟩, f0, -⟩ := HY.out.two h0
      have c0 := cell_below M0.out.bel c0
      have E1 := Lib.hid (show Pl.chDet ⟨en, mi, ma, st, wn⟩ Y = mi + pickZ ((Pl.gI (Y.getD 0 []) 0).tdiv 7) (ma - mi + 1) by unfold Pl.chDet; rw [if_pos h0])
      generalize Pl.gI (Y.getD 0 []) 0 = y0 at *
      rw [Nat.zero_mul, Nat.add_zero] at c0
      have P0 := Lib.hid (refPick_is (y0.tdiv 7) (ma - mi + 1) (fits_tdiv f0 (by omega)) (by omega))
      have g0 : IntKind.i64.wrap (y0.tdiv 7) = y0.tdiv 7 := wrap_fits (fits_tdiv f0 (by omega))
      obtain ⟨q1, q2⟩ := pickZ_bd (c := y0.tdiv 7) (n := ma - mi + 1) (by omega)
      generalize pickZ (y0.tdiv 7) (ma - mi + 1) = p0 at *
      have e3 : IntKind.i64.wrap (mi + p0) = mi + p0 := IntWalk.i64_in _ (by omega)
      have d1 := box_cell M0.out.pb 1 (.int .i64 mi) rfl
      have d2 := box_cell M0.out.pb 2 (.int .i64 ma) rfl
      have s2 := box_cell M0.out.sb 2 (.int .i64 mi) rfl
      have z2 := box_fz M0.out.sb 2
      have hlt := lt_of_block M0.out.sb
      go_upto_region 3 with (fail)
      go_still_tail 16, (by kernel_rfl)
      repeat still_step
      still_call (P0.out _)
      repeat still_step
      refine wpStill_nil ?_
      change wpList _ _ _ _ _ wa0.drew
      go_wp2_with fail
      have M3 := Lib.hid (M0.out.below (Below.refl _ _).drew)
      have M4 := Lib.hid (M3.out.num (o := 2) (u := mi + p0) (de' := mi + p0) (tl' := -1) (at' := 0) rfl)
      go_meet
      exact Lib.hid (by rw [E1.out]; exact M4.out)
    · have E1 := Lib.hid (show Pl.chDet ⟨en, mi, ma, st, wn⟩ Y = mi by unfold Pl.chDet; rw [if_neg h0])
      have k0 : ¬ (0 : Int) < (Y.length : Int) := by omega
      go_wp2_with fail
      go_meet
      exact Lib.hid (by rw [E1.out]; exact M0.out)
  case rest =>
    have HM := Lib.hid hcut.out
    clear hcut
    rename World => wq
    have hdb := Pl.chDet_bd HF.out Y
    generalize hD : Pl.chDet ⟨en, mi, ma, st, wn⟩ Y = de at *
    have HDe := Lib.hid hD
    clear hD M0
    go_wp2_with fail
    go_loopg [10] st.length (fun g iv wr => ∃ (k : Nat) (da mb : Option Addr) (dc mc : Nat), k ≤ st.length ∧ g = st.length - k ∧ iv = .int .i64 (k : Int) ∧ Hid (ChM w ⟨⟨en, mi, ma, st, wn⟩, sa, sc, wa, wc⟩ ⟨⟨Pl.dursTo ⟨en, mi, ma, st, wn⟩ Y k, Pl.mvsTo ⟨en, mi, ma, st, wn⟩ Y k, de, -1, 0⟩, da, dc, mb, mc⟩ wr))
    case atStart => exact ⟨0, none, none, 0, 0, by omega, by omega, rfl, HM⟩
    case round =>
      obtain ⟨k, da, mb, dc, mc, hk, rfl, rfl, HK⟩ := hrel
      rename World => wk
      have d3 := box_cell HK.out.pb 3 (.slice sa st.length sc) rfl
      by_cases hlt : k < st.length
      · go_upto_if 46 with (fail)
        have HK0 := Lib.hid (show _ ∧ _ from ⟨HK.out.below (below_new wk (.cells #[.int .i64 0, .int .i64 0] 56)), heap_alloc_new wk (.cells #[.int .i64 0, .int .i64 0] 56)⟩)
        have hS := HK.out.size
        clear d3
        generalize wk.alloc (.cells #[.int .i64 0, .int .i64 0] 56) = ws at *
        generalize wk.heap.size = S at *
        go_cut [11] (fun s11 wx => s11 = .pointer (some ⟨S, 0, none⟩) ∧ Hid (ChM w ⟨⟨en, mi, ma, st, wn⟩, sa, sc, wa, wc⟩ ⟨⟨Pl.dursTo ⟨en, mi, ma, st, wn⟩ Y k, Pl.mvsTo ⟨en, mi, ma, st, wn⟩ Y k, de, -1, 0⟩, da, dc, mb, mc⟩ wx ∧ wx.heap[S]? = some (.cells #[.int .i64 (Pl.gI (Pl.twoAt Y k) 0), .int .i64 (Pl.gI (Pl.twoAt Y k) 1)] 56)))
        case first =>
          by_cases hkY : k < Y.length
          · obtain ⟨b, off, rfl, hb, ⟨c0, c1⟩, f0, f1⟩ := HY.out.two hkY
            have c0 := cell_below HK0.out.1.bel c0
            have c1 := cell_below HK0.out.1.bel c1
            have E1 := Lib.hid (show Pl.twoAt Y k = Y.getD k [] by unfold Pl.twoAt; rw [if_pos hkY])
            generalize Y.getD k [] = y at *
            have s0 := box_cell HK0.out.2 0 (.int .i64 0) rfl
            have s1 := box_cell HK0.out.2 1 (.int .i64 0) rfl
            have z0 := box_fz HK0.out.2 0
            have z1 := box_fz HK0.out.2 1
            have hltS := lt_of_block HK0.out.2
            go_wp2_with fail
            have K1 := HK0.out.1.other HK0.out.2 (by decide) hS 0 (.int .i64 (Pl.gI y 0))
            have K2 := K1.other (block_set HK0.out.2 (o := 0) (.int .i64 (Pl.gI y 0))) (by decide) hS 1 (.int .i64 (Pl.gI y 1))
            have K3 := block_set (block_set HK0.out.2 (o := 0) (.int .i64 (Pl.gI y 0))) (o := 1) (.int .i64 (Pl.gI y 1))
            go_meet
            exact ⟨rfl, Lib.hid (by rw [E1.out]; exact ⟨K2, K3⟩)⟩
          · have E1 := Lib.hid (show Pl.twoAt Y k = [0, 0] by unfold Pl.twoAt; rw [if_neg hkY])
            go_wp2_with fail
            go_meet
            exact ⟨rfl, Lib.hid (by rw [E1.out]; exact HK0.out)⟩
        case rest =>
          obtain ⟨rfl, HC⟩ := hcut
          rename World => wx
          clear HK HK0
          have hfy : Fits (Pl.gI (Pl.twoAt Y k) 0) ∧ Fits (Pl.gI (Pl.twoAt Y k) 1) := by
            unfold Pl.twoAt
            split
            · rename_i h
              obtain ⟨b, off, -, -, -, f0, f1⟩ := HY.out.two h
              exact ⟨f0, f1⟩
            · exact ⟨⟨by decide, by decide⟩, ⟨by decide, by decide⟩⟩
          have HE1 := Lib.hid (show Pl.dursTo ⟨en, mi, ma, st, wn⟩ Y (k + 1) = Pl.dursTo ⟨en, mi, ma, st, wn⟩ Y k ++ [(st.getD k Pl.stage0).mn + pickZ (Pl.gI (Pl.twoAt Y k) 0) ((st.getD k Pl.stage0).mx - (st.getD k Pl.stage0).mn + 1)] from Pl.dursTo_succ _ _ _)
          have HE2 := Lib.hid (show Pl.mvsTo ⟨en, mi, ma, st, wn⟩ Y (k + 1) = Pl.mvsTo ⟨en, mi, ma, st, wn⟩ Y k ++ [mi + pickZ (Pl.gI (Pl.twoAt Y k) 1) (ma - mi + 1)] from Pl.mvsTo_succ _ _ _)
          have HL1 := Lib.hid (Pl.dursTo_len ⟨en, mi, ma, st, wn⟩ Y k); have HL2 := Lib.hid (Pl.mvsTo_len ⟨en, mi, ma, st, wn⟩ Y k)
          generalize Pl.dursTo ⟨en, mi, ma, st, wn⟩ Y k = du at *
          generalize Pl.mvsTo ⟨en, mi, ma, st, wn⟩ Y k = mv at *
          generalize Pl.gI (Pl.twoAt Y k) 0 = y0 at *
          generalize Pl.gI (Pl.twoAt Y k) 1 = y1 at *
          obtain ⟨b, off, rfl, hbw, c0, c1, -, -, -, -⟩ := st_getD HQ.out.st hlt
          have c0 := cell_below HC.out.1.bel c0
          have c1 := cell_below HC.out.1.bel c1
          have hsm := (HF.out.at hlt).mn
          change 1 ≤ (st.getD k Pl.stage0).mn ∧ (st.getD k Pl.stage0).mn ≤ (st.getD k Pl.stage0).mx ∧ (st.getD k Pl.stage0).mx ≤ 31 at hsm
          simp only at c0 c1
          generalize (st.getD k Pl.stage0).mn = mn at *
          generalize (st.getD k Pl.stage0).mx = mx at *
          obtain ⟨hs1, hs2, hs3⟩ := hsm
          have P1 := Lib.hid (refPick_is y0 (mx - mn + 1) hfy.1 (by omega))
          have P2 := Lib.hid (refPick_is y1 (ma - mi + 1) hfy.2 (by omega))
          obtain ⟨a1, a2⟩ := pickZ_bd (c := y0) (n := mx - mn + 1) (by omega)
          obtain ⟨a3, a4⟩ := pickZ_bd (c := y1) (n := ma - mi + 1) (by omega)
          generalize pickZ y0 (mx - mn + 1) = p1 at *
          generalize pickZ y1 (ma - mi + 1) = p2 at *
          have x1 : IntKind.i64.wrap (mx - mn) = mx - mn := IntWalk.i64_in _ (by omega)
          have x2 : IntKind.i64.wrap (mx - mn + 1) = mx - mn + 1 := IntWalk.i64_in _ (by omega)
          have x3 : IntKind.i64.wrap (mn + p1) = mn + p1 := IntWalk.i64_in _ (by omega)
          have x4 : IntKind.i64.wrap (mi + p2) = mi + p2 := IntWalk.i64_in _ (by omega)
          clear hfy
          have d3 := box_cell HC.out.1.pb 3 (.slice (some ⟨b, off, none⟩) st.length sc) rfl
          have s0 := box_cell HC.out.1.sb 0 (.slice da du.length dc) rfl
          have t0 := box_cell HC.out.2 0 (.int .i64 y0) rfl
          have i1 : (0 : Int) ≤ (k : Int) := by omega
          have i2 : (k : Int) < (st.length : Int) := by omega
          have i4 : ((k : Int)).toNat = k := by omega
          have hdl : du.length ≤ 5 := by have := HL1.out; omega
          have hml : mv.length ≤ 5 := by have := HL2.out; omega
          obtain ⟨i0, hi, hz0, hz1, hz2⟩ := info_parts info_int1
          have HA := Lib.hid (show Below wx.heap.size wx (wx.drew.alloc (.cells #[.int .i64 (mn + p1)] 3)) from below_step (Below.refl _ _).drew (below_new wx.drew _))
          have HOwn := Lib.hid (show (wx.drew.alloc (.cells #[.int .i64 (mn + p1)] 3)).ownsRow w.heap.size 3 1 (.slice da du.length dc) du.length (du.flatMap intCells) from own_below HC.out.1.drow HA.out)
          have HNW : Hid (∀ j u, [Value.int .i64 (mn + p1)][j]? = some u → (wx.drew.alloc (.cells #[.int .i64 (mn + p1)] 3)).cell? ((⟨wx.heap.size, 0, none⟩ : Addr).add j) = some u) := Lib.hid (World.news_of_block (w := (wx.drew.alloc (.cells #[.int .i64 (mn + p1)] 3))) (B := wx.heap.size) (cs := #[.int .i64 (mn + p1)]) (t := 3) (fr := (0, 0)) (heap_alloc_new wx.drew _))
          have HHs : Hid ((wx.drew.alloc (.cells #[.int .i64 (mn + p1)] 3)).heap.size = wx.heap.size + 1) := Lib.hid (World.size_alloc _ _)
          have hsw : w.heap.size ≤ (wx.drew.alloc (.cells #[.int .i64 (mn + p1)] 3)).heap.size := Nat.le_trans HC.out.1.bel.size HA.out.size
          have hS2 := HC.out.1.size
          have hbx : b < w.heap.size := hbw
          have HS0 : Hid (wx.drew.cell? ⟨w.heap.size, 3, none⟩ = some (.slice (some ⟨b, off, none⟩) st.length sc) ∧ wx.drew.cell? ⟨b, off + k * 6, none⟩ = some (.int .i64 mn) ∧ wx.drew.cell? ⟨b, off + k * 6 + 1, none⟩ = some (.int .i64 mx) ∧ wx.drew.cell? ⟨S, 0, none⟩ = some (.int .i64 y0)) := Lib.hid ⟨d3, c0, c1, t0⟩
          have HSA : Hid ((wx.drew.alloc (.cells #[.int .i64 (mn + p1)] 3)).cell? ⟨w.heap.size, 3, none⟩ = some (.slice (some ⟨b, off, none⟩) st.length sc) ∧ (wx.drew.alloc (.cells #[.int .i64 (mn + p1)] 3)).cell? ⟨b, off + k * 6, none⟩ = some (.int .i64 mn) ∧ (wx.drew.alloc (.cells #[.int .i64 (mn + p1)] 3)).cell? ⟨b, off + k * 6 + 1, none⟩ = some (.int .i64 mx) ∧ (wx.drew.alloc (.cells #[.int .i64 (mn + p1)] 3)).cell? ⟨S, 0, none⟩ = some (.int .i64 y0)) := Lib.hid ⟨cell_below HA.out d3, cell_below HA.out c0, cell_below HA.out c1, cell_below HA.out t0⟩
          have HD : Hid (∀ (g cap : Nat) (w3 : World), w3.ownsRow w.heap.size 3 1 (.slice (some ⟨g, 0, none⟩) (du.length + 1) cap) (du.length + 1) (du.flatMap intCells ++ [Value.int .i64 (mn + p1)]) → (wx.drew.alloc (.cells #[.int .i64 (mn + p1)] 3)).grownBy w3 (Value.slice da du.length dc).ownBlock → ((Value.slice da du.length dc).ownBlock = some g ∨ g = wx.heap.size + 1) →
              (ChM w ⟨⟨en, mi, ma, st, wn⟩, some ⟨b, off, none⟩, sc, wa, wc⟩ ⟨⟨du ++ [mn + p1], mv, de, -1, 0⟩, some ⟨g, 0, none⟩, cap, mb, mc⟩ (w3.setCell ⟨w.heap.size + 1 + 1, 0, none⟩ (.slice (some ⟨g, 0, none⟩) (du.length + 1) cap)) ∧ (w3.setCell ⟨w.heap.size + 1 + 1, 0, none⟩ (.slice (some ⟨g, 0, none⟩) (du.length + 1) cap)).heap[S]? = some (.cells #[.int .i64 y0, .int .i64 y1] 56)) ∧
              w3.cell? ⟨w.heap.size + 1 + 1, 0, none⟩ = some (.slice da du.length dc) ∧ w3.frozen? ⟨w.heap.size + 1 + 1, 0, none⟩ = false ∧ w.heap.size + 1 + 1 < w3.heap.size ∧ (w3.cell? ⟨w.heap.size, 3, none⟩ = some (.slice (some ⟨b, off, none⟩) st.length sc) ∧ w3.cell? ⟨b, off + k * 6, none⟩ = some (.int .i64 mn) ∧ w3.cell? ⟨b, off + k * 6 + 1, none⟩ = some (.int .i64 mx) ∧ w3.cell? ⟨S, 0, none⟩ = some (.int .i64 y0)) ∧ (w3.setCell ⟨w.heap.size + 1 + 1, 0, none⟩ (.slice (some ⟨g, 0, none⟩) (du.length + 1) cap)).cell? ⟨w.heap.size, 3, none⟩ = some (.slice (some ⟨b, off, none⟩) st.length sc) ∧ (w3.setCell ⟨w.heap.size + 1 + 1, 0, none⟩ (.slice (some ⟨g, 0, none⟩) (du.length + 1) cap)).cell? ⟨b, off + k * 6, none⟩ = some (.int .i64 mn) ∧ (w3.setCell ⟨w.heap.size + 1 + 1, 0, none⟩ (.slice (some ⟨g, 0, none⟩) (du.length + 1) cap)).cell? ⟨b, off + k * 6 + 1, none⟩ = some (.int .i64 mx) ∧ (w3.setCell ⟨w.heap.size + 1 + 1, 0, none⟩ (.slice (some ⟨g, 0, none⟩) (du.length + 1) cap)).cell? ⟨S, 0, none⟩ = some (.int .i64 y0)) := Lib.hid (fun g cap w3 hown hgrow hg => by
            obtain ⟨h1, h2⟩ := HC.out.1.dur (mn + p1) HA.out (a' := some ⟨g, 0, none⟩) (c' := cap) hown hgrow (fun k hk => by
              simp only [Value.ownBlock, Option.some.injEq] at hk
              subst hk
              rcases hg with h | h
              · exact .inl h
              · exact .inr (by rw [HHs.out]; omega))
            have hne := (HC.out.1.below HA.out).ne (j := S) (box_below HC.out.2 HA.out) (by decide)
            have hnp := (HC.out.1.below HA.out).ne (HC.out.1.below HA.out).pb (by decide)
            have hlow := (HC.out.1.below HA.out).drow
            have far : ∀ (m o : Nat) (v : Value), (∀ b', (Value.slice da du.length dc).ownBlock = some b' → b' ≠ m) → (wx.drew.alloc (.cells #[.int .i64 (mn + p1)] 3)).cell? ⟨m, o, none⟩ = some v → w3.cell? ⟨m, o, none⟩ = some v := fun m o v hm hv =>
              (World.cell?_of_block (a := ⟨m, o, none⟩) (hgrow.block _ (World.block_lt_of_cell? _ _ hv) (fun e => hm m e.symm rfl))).trans hv
            have far2 : ∀ (m o : Nat) (v : Value), m ≠ w.heap.size + 1 + 1 → w3.cell? ⟨m, o, none⟩ = some v → (w3.setCell ⟨w.heap.size + 1 + 1, 0, none⟩ (.slice (some ⟨g, 0, none⟩) (du.length + 1) cap)).cell? ⟨m, o, none⟩ = some v := fun m o v hm hv =>
              (World.cell?_of_block (a := ⟨m, o, none⟩) (Below.heap_setCell _ _ _ _ (show m ≠ w.heap.size + 1 + 1 from hm))).trans hv
            have hbn : ∀ b', (Value.slice da du.length dc).ownBlock = some b' → b' ≠ b := fun b' hb' e => by have := (hlow.lt b' hb').1; omega
            have k1 := far _ _ _ (fun b' hb' => hnp.1 b' hb') HSA.out.1
            have k2 := far _ _ _ hbn HSA.out.2.1
            have k3 := far _ _ _ hbn HSA.out.2.2.1
            have k4 := far _ _ _ (fun b' hb' => hne.1 b' hb') HSA.out.2.2.2
            refine ⟨⟨h1, ?_⟩, box_cell h2 0 _ rfl, box_fz h2 0, lt_of_block h2, ⟨k1, k2, k3, k4⟩, far2 _ _ _ (by omega) k1, far2 _ _ _ (by omega) k2, far2 _ _ _ (by omega) k3, far2 _ _ _ (by omega) k4⟩
            have hS3 := (hgrow.block _ (lt_of_block (box_below HC.out.2 HA.out)) (fun e => hne.1 _ e.symm rfl)).trans (box_below HC.out.2 HA.out)
            exact (Below.heap_setCell _ _ _ _ (show S ≠ w.heap.size + 1 + 1 by omega)).trans hS3)
          go_upto_region 10 with (fail)
          go_cut [11] (fun s11 wz => s11 = .pointer (some ⟨S, 0, none⟩) ∧ ∃ (a' : Option Addr) (c' : Nat), Hid (ChM w ⟨⟨en, mi, ma, st, wn⟩, some ⟨b, off, none⟩, sc, wa, wc⟩ ⟨⟨du ++ [mn + p1], mv, de, -1, 0⟩, a', c', mb, mc⟩ wz ∧ wz.heap[S]? = some (.cells #[.int .i64 y0, .int .i64 y1] 56)))
          case first => as_aux_lemma =>
            refine wp_region_held_drew (S := (fun v => v.cell? ⟨w.heap.size, 3, none⟩ = some (.slice (some ⟨b, off, none⟩) st.length sc) ∧ v.cell? ⟨b, off + k * 6, none⟩ = some (.int .i64 mn) ∧ v.cell? ⟨b, off + k * 6 + 1, none⟩ = some (.int .i64 mx) ∧ v.cell? ⟨S, 0, none⟩ = some (.int .i64 y0))) (by kernel_rfl) (HS0.out) (fun hHeld => ?_)
            refine wpAnyH_take (i := 0) (oi := { dst := some 51, op := Op.fieldAddr 67 (Operand.tmp 9) 0, type := 0, pos := "ref.go:199", after := #[], guard := none }) (v := ?vd1_0) rfl (by kernel_rfl) (by kernel_rfl) (by kernel_rfl) (fun _ _ _ h => h) (Or.inl ⟨by rfl, ?yd1_0⟩) (by assumption) ?td1_0
            case yd1_0 => (intro w hSw; obtain ⟨u0, u1, u2, u3⟩ := hSw); go_simp; try with_reducible rfl
            simp only [Act.put, List.setIfInBounds_toArray, List.set_cons_zero, List.set_cons_succ]
            refine wpAnyH_take (i := 2) (oi := { dst := some 53, op := Op.fieldAddr 64 (Operand.tmp 4) 3, type := 0, pos := "ref.go:199", after := #[], guard := none }) (v := ?vd2_2) rfl (by kernel_rfl) (by kernel_rfl) (by kernel_rfl) (fun _ _ _ h => h) (Or.inl ⟨by rfl, ?yd2_2⟩) (by assumption) ?td2_2
            case yd2_2 => (intro w hSw; obtain ⟨u0, u1, u2, u3⟩ := hSw); go_simp; try with_reducible rfl
            simp only [Act.put, List.setIfInBounds_toArray, List.set_cons_zero, List.set_cons_succ]
            refine wpAnyH_take (i := 3) (oi := { dst := some 54, op := Op.load 61 (Operand.tmp 53), type := 61, pos := "ref.go:199", after := #[{ on := 2, ground := Ground.data }], guard := none }) (v := ?vd3_3) rfl (by kernel_rfl) (by kernel_rfl) (by kernel_rfl) (fun _ _ _ h => h) (Or.inl ⟨by rfl, ?yd3_3⟩) (by assumption) ?td3_3
            case yd3_3 => (intro w hSw; obtain ⟨u0, u1, u2, u3⟩ := hSw); go_simp; try with_reducible rfl
            simp only [Act.put, List.setIfInBounds_toArray, List.set_cons_zero, List.set_cons_succ]
            refine wpAnyH_take (i := 4) (oi := { dst := some 55, op := Op.move (Operand.tmp 10), type := 3, pos := "ref.go:199", after := #[], guard := none }) (v := ?vd4_4) rfl (by kernel_rfl) (by kernel_rfl) (by kernel_rfl) (fun _ _ _ h => h) (Or.inl ⟨by rfl, ?yd4_4⟩) (by assumption) ?td4_4
            case yd4_4 => (intro w hSw; obtain ⟨u0, u1, u2, u3⟩ := hSw); go_simp; try with_reducible rfl
            simp only [Act.put, List.setIfInBounds_toArray, List.set_cons_zero, List.set_cons_succ]
            refine wpAnyH_take (i := 5) (oi := { dst := some 56, op := Op.indexAddr 61 (Operand.tmp 54) (Operand.tmp 55), type := 0, pos := "ref.go:199", after := #[{ on := 3, ground := Ground.data }, { on := 4, ground := Ground.data }], guard := none }) (v := ?vd5_5) rfl (by kernel_rfl) (by kernel_rfl) (by kernel_rfl) (fun _ _ _ h => h) (Or.inl ⟨by rfl, ?yd5_5⟩) (by assumption) ?td5_5
            case yd5_5 => (intro w hSw; obtain ⟨u0, u1, u2, u3⟩ := hSw); go_simp; try with_reducible rfl
            simp only [Act.put, List.setIfInBounds_toArray, List.set_cons_zero, List.set_cons_succ]
            refine wpAnyH_take (i := 6) (oi := { dst := some 57, op := Op.fieldAddr 108 (Operand.tmp 56) 0, type := 0, pos := "ref.go:199", after := #[{ on := 5, ground := Ground.data }], guard := none }) (v := ?vd6_6) rfl (by kernel_rfl) (by kernel_rfl) (by kernel_rfl) (fun _ _ _ h => h) (Or.inl ⟨by rfl, ?yd6_6⟩) (by assumption) ?td6_6
            case yd6_6 => (intro w hSw; obtain ⟨u0, u1, u2, u3⟩ := hSw); go_simp; try with_reducible rfl
            simp only [Act.put, List.setIfInBounds_toArray, List.set_cons_zero, List.set_cons_succ]
            refine wpAnyH_take (i := 7) (oi := { dst := some 58, op := Op.load 3 (Operand.tmp 57), type := 3, pos := "ref.go:199", after := #[{ on := 6, ground := Ground.data }], guard := none }) (v := ?vd7_7) rfl (by kernel_rfl) (by kernel_rfl) (by kernel_rfl) (fun _ _ _ h => h) (Or.inl ⟨by rfl, ?yd7_7⟩) (by assumption) ?td7_7
            case yd7_7 => (intro w hSw; obtain ⟨u0, u1, u2, u3⟩ := hSw); go_simp; try with_reducible rfl
            simp only [Act.put, List.setIfInBounds_toArray, List.set_cons_zero, List.set_cons_succ]
            refine wpAnyH_take (i := 8) (oi := { dst := some 59, op := Op.indexAddr 56 (Operand.tmp 11) (Operand.const (Value.int IntKind.i64 0)), type := 0, pos := "ref.go:199", after := #[], guard := none }) (v := ?vd8_8) rfl (by kernel_rfl) (by kernel_rfl) (by kernel_rfl) (fun _ _ _ h => h) (Or.inl ⟨by rfl, ?yd8_8⟩) (by assumption) ?td8_8
            case yd8_8 => (intro w hSw; obtain ⟨u0, u1, u2, u3⟩ := hSw); go_simp; try with_reducible rfl
            simp only [Act.put, List.setIfInBounds_toArray, List.set_cons_zero, List.set_cons_succ]
            refine wpAnyH_take (i := 9) (oi := { dst := some 60, op := Op.load 3 (Operand.tmp 59), type := 3, pos := "ref.go:199", after := #[{ on := 8, ground := Ground.data }], guard := none }) (v := ?vd9_9) rfl (by kernel_rfl) (by kernel_rfl) (by kernel_rfl) (fun _ _ _ h => h) (Or.inl ⟨by rfl, ?yd9_9⟩) (by assumption) ?td9_9
            case yd9_9 => (intro w hSw; obtain ⟨u0, u1, u2, u3⟩ := hSw); go_simp; try with_reducible rfl
            simp only [Act.put, List.setIfInBounds_toArray, List.set_cons_zero, List.set_cons_succ]
            refine wpAnyH_take (i := 10) (oi := { dst := some 61, op := Op.fieldAddr 64 (Operand.tmp 4) 3, type := 0, pos := "ref.go:199", after := #[], guard := none }) (v := ?vd10_10) rfl (by kernel_rfl) (by kernel_rfl) (by kernel_rfl) (fun _ _ _ h => h) (Or.inl ⟨by rfl, ?yd10_10⟩) (by assumption) ?td10_10
            case yd10_10 => (intro w hSw; obtain ⟨u0, u1, u2, u3⟩ := hSw); go_simp; try with_reducible rfl
            simp only [Act.put, List.setIfInBounds_toArray, List.set_cons_zero, List.set_cons_succ]
            refine wpAnyH_take (i := 11) (oi := { dst := some 62, op := Op.load 61 (Operand.tmp 61), type := 61, pos := "ref.go:199", after := #[{ on := 10, ground := Ground.data }], guard := none }) (v := ?vd11_11) rfl (by kernel_rfl) (by kernel_rfl) (by kernel_rfl) (fun _ _ _ h => h) (Or.inl ⟨by rfl, ?yd11_11⟩) (by assumption) ?td11_11
            case yd11_11 => (intro w hSw; obtain ⟨u0, u1, u2, u3⟩ := hSw); go_simp; try with_reducible rfl
            simp only [Act.put, List.setIfInBounds_toArray, List.set_cons_zero, List.set_cons_succ]
            refine wpAnyH_take (i := 12) (oi := { dst := some 63, op := Op.move (Operand.tmp 10), type := 3, pos := "ref.go:199", after := #[], guard := none }) (v := ?vd12_12) rfl (by kernel_rfl) (by kernel_rfl) (by kernel_rfl) (fun _ _ _ h => h) (Or.inl ⟨by rfl, ?yd12_12⟩) (by assumption) ?td12_12
            case yd12_12 => (intro w hSw; obtain ⟨u0, u1, u2, u3⟩ := hSw); go_simp; try with_reducible rfl
            simp only [Act.put, List.setIfInBounds_toArray, List.set_cons_zero, List.set_cons_succ]
            refine wpAnyH_take (i := 13) (oi := { dst := some 64, op := Op.indexAddr 61 (Operand.tmp 62) (Operand.tmp 63), type := 0, pos := "ref.go:199", after := #[{ on := 11, ground := Ground.data }, { on := 12, ground := Ground.data }], guard := none }) (v := ?vd13_13) rfl (by kernel_rfl) (by kernel_rfl) (by kernel_rfl) (fun _ _ _ h => h) (Or.inl ⟨by rfl, ?yd13_13⟩) (by assumption) ?td13_13
            case yd13_13 => (intro w hSw; obtain ⟨u0, u1, u2, u3⟩ := hSw); go_simp; try with_reducible rfl
            simp only [Act.put, List.setIfInBounds_toArray, List.set_cons_zero, List.set_cons_succ]
            refine wpAnyH_take (i := 14) (oi := { dst := some 65, op := Op.fieldAddr 108 (Operand.tmp 64) 1, type := 0, pos := "ref.go:199", after := #[{ on := 13, ground := Ground.data }], guard := none }) (v := ?vd14_14) rfl (by kernel_rfl) (by kernel_rfl) (by kernel_rfl) (fun _ _ _ h => h) (Or.inl ⟨by rfl, ?yd14_14⟩) (by assumption) ?td14_14
            case yd14_14 => (intro w hSw; obtain ⟨u0, u1, u2, u3⟩ := hSw); go_simp; try with_reducible rfl
            simp only [Act.put, List.setIfInBounds_toArray, List.set_cons_zero, List.set_cons_succ]
            refine wpAnyH_take (i := 15) (oi := { dst := some 66, op := Op.load 3 (Operand.tmp 65), type := 3, pos := "ref.go:199", after := #[{ on := 14, ground := Ground.data }], guard := none }) (v := ?vd15_15) rfl (by kernel_rfl) (by kernel_rfl) (by kernel_rfl) (fun _ _ _ h => h) (Or.inl ⟨by rfl, ?yd15_15⟩) (by assumption) ?td15_15
            case yd15_15 => (intro w hSw; obtain ⟨u0, u1, u2, u3⟩ := hSw); go_simp; try with_reducible rfl
            simp only [Act.put, List.setIfInBounds_toArray, List.set_cons_zero, List.set_cons_succ]
            refine wpAnyH_take (i := 16) (oi := { dst := some 67, op := Op.fieldAddr 64 (Operand.tmp 4) 3, type := 0, pos := "ref.go:199", after := #[], guard := none }) (v := ?vd16_16) rfl (by kernel_rfl) (by kernel_rfl) (by kernel_rfl) (fun _ _ _ h => h) (Or.inl ⟨by rfl, ?yd16_16⟩) (by assumption) ?td16_16
            case yd16_16 => (intro w hSw; obtain ⟨u0, u1, u2, u3⟩ := hSw); go_simp; try with_reducible rfl
            simp only [Act.put, List.setIfInBounds_toArray, List.set_cons_zero, List.set_cons_succ]
            refine wpAnyH_take (i := 17) (oi := { dst := some 68, op := Op.load 61 (Operand.tmp 67), type := 61, pos := "ref.go:199", after := #[{ on := 16, ground := Ground.data }], guard := none }) (v := ?vd17_17) rfl (by kernel_rfl) (by kernel_rfl) (by kernel_rfl) (fun _ _ _ h => h) (Or.inl ⟨by rfl, ?yd17_17⟩) (by assumption) ?td17_17
            case yd17_17 => (intro w hSw; obtain ⟨u0, u1, u2, u3⟩ := hSw); go_simp; try with_reducible rfl
            simp only [Act.put, List.setIfInBounds_toArray, List.set_cons_zero, List.set_cons_succ]
            refine wpAnyH_take (i := 18) (oi := { dst := some 69, op := Op.move (Operand.tmp 10), type := 3, pos := "ref.go:199", after := #[], guard := none }) (v := ?vd18_18) rfl (by kernel_rfl) (by kernel_rfl) (by kernel_rfl) (fun _ _ _ h => h) (Or.inl ⟨by rfl, ?yd18_18⟩) (by assumption) ?td18_18
            case yd18_18 => (intro w hSw; obtain ⟨u0, u1, u2, u3⟩ := hSw); go_simp; try with_reducible rfl
            simp only [Act.put, List.setIfInBounds_toArray, List.set_cons_zero, List.set_cons_succ]
            refine wpAnyH_take (i := 19) (oi := { dst := some 70, op := Op.indexAddr 61 (Operand.tmp 68) (Operand.tmp 69), type := 0, pos := "ref.go:199", after := #[{ on := 17, ground := Ground.data }, { on := 18, ground := Ground.data }], guard := none }) (v := ?vd19_19) rfl (by kernel_rfl) (by kernel_rfl) (by kernel_rfl) (fun _ _ _ h => h) (Or.inl ⟨by rfl, ?yd19_19⟩) (by assumption) ?td19_19
            case yd19_19 => (intro w hSw; obtain ⟨u0, u1, u2, u3⟩ := hSw); go_simp; try with_reducible rfl
            simp only [Act.put, List.setIfInBounds_toArray, List.set_cons_zero, List.set_cons_succ]
            refine wpAnyH_take (i := 20) (oi := { dst := some 71, op := Op.fieldAddr 108 (Operand.tmp 70) 0, type := 0, pos := "ref.go:199", after := #[{ on := 19, ground := Ground.data }], guard := none }) (v := ?vd20_20) rfl (by kernel_rfl) (by kernel_rfl) (by kernel_rfl) (fun _ _ _ h => h) (Or.inl ⟨by rfl, ?yd20_20⟩) (by assumption) ?td20_20
            case yd20_20 => (intro w hSw; obtain ⟨u0, u1, u2, u3⟩ := hSw); go_simp; try with_reducible rfl
            simp only [Act.put, List.setIfInBounds_toArray, List.set_cons_zero, List.set_cons_succ]
            refine wpAnyH_take (i := 21) (oi := { dst := some 72, op := Op.load 3 (Operand.tmp 71), type := 3, pos := "ref.go:199", after := #[{ on := 20, ground := Ground.data }], guard := none }) (v := ?vd21_21) rfl (by kernel_rfl) (by kernel_rfl) (by kernel_rfl) (fun _ _ _ h => h) (Or.inl ⟨by rfl, ?yd21_21⟩) (by assumption) ?td21_21
            case yd21_21 => (intro w hSw; obtain ⟨u0, u1, u2, u3⟩ := hSw); go_simp; try with_reducible rfl
            simp only [Act.put, List.setIfInBounds_toArray, List.set_cons_zero, List.set_cons_succ]
            refine wpAnyH_take (i := 22) (oi := { dst := some 73, op := Op.binOp BinOp.sub 3 (Operand.tmp 66) (Operand.tmp 72) 3, type := 3, pos := "ref.go:199", after := #[{ on := 15, ground := Ground.data }, { on := 21, ground := Ground.data }], guard := none }) (v := ?vd22_22) rfl (by kernel_rfl) (by kernel_rfl) (by kernel_rfl) (fun _ _ _ h => h) (Or.inl ⟨by rfl, ?yd22_22⟩) (by assumption) ?td22_22
            case yd22_22 => (intro w hSw; obtain ⟨u0, u1, u2, u3⟩ := hSw); go_simp; try with_reducible rfl
            simp only [Act.put, List.setIfInBounds_toArray, List.set_cons_zero, List.set_cons_succ]
            refine wpAnyH_take (i := 23) (oi := { dst := some 74, op := Op.binOp BinOp.add 3 (Operand.tmp 73) (Operand.const (Value.int IntKind.i64 1)) 3, type := 3, pos := "ref.go:199", after := #[{ on := 22, ground := Ground.data }], guard := none }) (v := ?vd23_23) rfl (by kernel_rfl) (by kernel_rfl) (by kernel_rfl) (fun _ _ _ h => h) (Or.inl ⟨by rfl, ?yd23_23⟩) (by assumption) ?td23_23
            case yd23_23 => (intro w hSw; obtain ⟨u0, u1, u2, u3⟩ := hSw); go_simp; try with_reducible rfl
            simp only [Act.put, List.setIfInBounds_toArray, List.set_cons_zero, List.set_cons_succ]
            refine wpAnyH_ready (rs := [1, 24]) (by kernel_rfl) (by simp) ?_
            refine AllReadyH.cons (o := { dst := some 52, op := Op.load 23 (Operand.tmp 51), type := 23, pos := "ref.go:199", after := #[{ on := 0, ground := Ground.data }], guard := none }) rfl (fun K hK => ?_) ?_
            · go_simp
              refine hK.out _ _ (hHeld) (fun hHeld' => ?_)
              clear hK K hHeld
              have hHeld := hHeld'; clear hHeld'
              try simp only [Act.put, List.setIfInBounds_toArray, List.set_cons_zero, List.set_cons_succ]
              refine wpAnyH_ready (rs := [24]) (by kernel_rfl) (by simp) ?_
              refine AllReadyH.cons (o := { dst := some 75, op := Op.call { callee := Callee.value (Operand.func 61), args := #[Operand.tmp 60, Operand.tmp 74], argTypes := #[3, 3] }, type := 3, pos := "ref.go:199", after := #[{ on := 9, ground := Ground.data }, { on := 23, ground := Ground.data }], guard := none }) rfl (fun K hK => ?_) AllReadyH.nil
              go_simp
              refine (P1.out _).mono ?_; rintro e wc1 ⟨rfl, rfl⟩
              refine hK.out _ _ (hHeld) (fun hHeld' => ?_)
              clear hK K hHeld
              have hHeld := hHeld'; clear hHeld'
              try simp only [Act.put, List.setIfInBounds_toArray, List.set_cons_zero, List.set_cons_succ]
              refine wpAnyH_take (i := 25) (oi := { dst := some 76, op := Op.binOp BinOp.add 3 (Operand.tmp 58) (Operand.tmp 75) 3, type := 3, pos := "ref.go:199", after := #[{ on := 7, ground := Ground.data }, { on := 24, ground := Ground.data }], guard := none }) (v := ?vd24_25) rfl (by kernel_rfl) (by kernel_rfl) (by kernel_rfl) (fun _ _ _ h => h) (Or.inl ⟨by rfl, ?yd24_25⟩) (by assumption) ?td24_25
              case yd24_25 => (intro w hSw; obtain ⟨u0, u1, u2, u3⟩ := hSw); go_simp; try with_reducible rfl
              simp only [Act.put, List.setIfInBounds_toArray, List.set_cons_zero, List.set_cons_succ]
              refine wpAnyH_ready (rs := [26]) (by kernel_rfl) (by simp) ?_
              refine AllReadyH.cons (o := { dst := some 77, op := Op.buildSlice 23 1 #[(0, Operand.tmp 76)], type := 23, pos := "ref.go:199", after := #[{ on := 25, ground := Ground.data }], guard := none }) rfl (fun K hK => ?_) AllReadyH.nil
              go_simp
              refine hK.out _ _ (HSA.out) (fun hHeld' => ?_)
              clear hK K hHeld
              have hHeld := hHeld'; clear hHeld'
              try simp only [Act.put, List.setIfInBounds_toArray, List.set_cons_zero, List.set_cons_succ]
              refine wpAnyH_ready (rs := [27]) (by kernel_rfl) (by simp) ?_
              refine AllReadyH.cons (o := { dst := some 78, op := Op.call { callee := Callee.builtin Go.Builtin.append, args := #[Operand.tmp 52, Operand.tmp 77], argTypes := #[23, 23] }, type := 23, pos := "ref.go:199", after := #[{ on := 1, ground := Ground.data }, { on := 26, ground := Ground.data }, { on := 24, ground := Ground.chain }], guard := none }) rfl (fun K hK => ?_) AllReadyH.nil
              rw [if_pos (show Region.wanted _ _ = true from rfl)]
              refine wp_append_lies _ (.tmp 52) (.tmp 77) 23 rfl w.heap.size 3 i0 _ 1 8 Try.underlying23 hi hz0 hz1 hz2 rfl (by decide) _ _ _ rfl HOwn.out ⟨wx.heap.size, 0, none⟩ 1 1 [.int .i64 (mn + p1)] rfl rfl HNW.out (by simp [Value.oneCell']) (by decide) (by unfold maxLen; omega) (by omega) hsw (wx.heap.size + 1) HHs.out ?_
              intro g cap w3 hown hgrow hg hglt
              have hM := HD.out g cap w3 hown hgrow hg
              obtain ⟨hM1, hM2, hM3, hM4, hM5, hM6⟩ := hM
              clear hown hgrow hg hglt
              refine hK.out _ _ (hM5) (fun hHeld' => ?_)
              clear hK K hHeld
              have hHeld := hHeld'; clear hHeld'
              try simp only [Act.put, List.setIfInBounds_toArray, List.set_cons_zero, List.set_cons_succ]
              refine wpAnyH_take (i := 28) (oi := { dst := some 79, op := Op.fieldAddr 67 (Operand.tmp 9) 0, type := 0, pos := "ref.go:199", after := #[{ on := 0, ground := Ground.phase }, { on := 1, ground := Ground.phase }, { on := 2, ground := Ground.phase }, { on := 3, ground := Ground.phase }, { on := 4, ground := Ground.phase }, { on := 5, ground := Ground.phase }, { on := 6, ground := Ground.phase }, { on := 7, ground := Ground.phase }, { on := 8, ground := Ground.phase }, { on := 9, ground := Ground.phase }, { on := 10, ground := Ground.phase }, { on := 11, ground := Ground.phase }, { on := 12, ground := Ground.phase }, { on := 13, ground := Ground.phase }, { on := 14, ground := Ground.phase }, { on := 15, ground := Ground.phase }, { on := 16, ground := Ground.phase }, { on := 17, ground := Ground.phase }, { on := 18, ground := Ground.phase }, { on := 19, ground := Ground.phase }, { on := 20, ground := Ground.phase }, { on := 21, ground := Ground.phase }, { on := 22, ground := Ground.phase }, { on := 23, ground := Ground.phase }, { on := 24, ground := Ground.phase }, { on := 25, ground := Ground.phase }, { on := 26, ground := Ground.phase }, { on := 27, ground := Ground.phase }], guard := none }) (v := ?vd25_28) rfl (by kernel_rfl) (by kernel_rfl) (by kernel_rfl) (fun _ _ _ h => h) (Or.inl ⟨by rfl, ?yd25_28⟩) (by assumption) ?td25_28
              case yd25_28 => (intro w hSw; obtain ⟨u0, u1, u2, u3⟩ := hSw); go_simp; try with_reducible rfl
              simp only [Act.put, List.setIfInBounds_toArray, List.set_cons_zero, List.set_cons_succ]
              refine wpAnyH_ready (rs := [29]) (by kernel_rfl) (by simp) ?_
              refine AllReadyH.cons (o := { dst := none, op := Op.store 23 (Operand.tmp 79) (Operand.tmp 78), type := 0, pos := "ref.go:199", after := #[{ on := 28, ground := Ground.data }, { on := 27, ground := Ground.data }, { on := 27, ground := Ground.chain }, { on := 0, ground := Ground.phase }, { on := 1, ground := Ground.phase }, { on := 2, ground := Ground.phase }, { on := 3, ground := Ground.phase }, { on := 4, ground := Ground.phase }, { on := 5, ground := Ground.phase }, { on := 6, ground := Ground.phase }, { on := 7, ground := Ground.phase }, { on := 8, ground := Ground.phase }, { on := 9, ground := Ground.phase }, { on := 10, ground := Ground.phase }, { on := 11, ground := Ground.phase }, { on := 12, ground := Ground.phase }, { on := 13, ground := Ground.phase }, { on := 14, ground := Ground.phase }, { on := 15, ground := Ground.phase }, { on := 16, ground := Ground.phase }, { on := 17, ground := Ground.phase }, { on := 18, ground := Ground.phase }, { on := 19, ground := Ground.phase }, { on := 20, ground := Ground.phase }, { on := 21, ground := Ground.phase }, { on := 22, ground := Ground.phase }, { on := 23, ground := Ground.phase }, { on := 24, ground := Ground.phase }, { on := 25, ground := Ground.phase }, { on := 26, ground := Ground.phase }, { on := 27, ground := Ground.phase }], guard := none }) rfl (fun K hK => ?_) AllReadyH.nil
              go_simp
              refine hK.out _ _ (hM6) (fun hHeld' => ?_)
              clear hK K hHeld
              have hHeld := hHeld'; clear hHeld'
              try simp only [Act.put, List.setIfInBounds_toArray, List.set_cons_zero, List.set_cons_succ]
              refine wpAnyH_done (by kernel_rfl) ?_ _
              have HM1 := Lib.hid hM1
              clear hM1 hM2 hM3 hM4 hM5 hM6
              go_wp2_with fail
              go_meet
              exact ⟨rfl, _, _, Lib.hid HM1.out⟩
            refine AllReadyH.cons (o := { dst := some 75, op := Op.call { callee := Callee.value (Operand.func 61), args := #[Operand.tmp 60, Operand.tmp 74], argTypes := #[3, 3] }, type := 3, pos := "ref.go:199", after := #[{ on := 9, ground := Ground.data }, { on := 23, ground := Ground.data }], guard := none }) rfl (fun K hK => ?_) AllReadyH.nil
            go_simp
            refine (P1.out _).mono ?_; rintro e wc1 ⟨rfl, rfl⟩
            refine hK.out _ _ (hHeld) (fun hHeld' => ?_)
            clear hK K hHeld
            have hHeld := hHeld'; clear hHeld'
            try simp only [Act.put, List.setIfInBounds_toArray, List.set_cons_zero, List.set_cons_succ]
            refine wpAnyH_take (i := 25) (oi := { dst := some 76, op := Op.binOp BinOp.add 3 (Operand.tmp 58) (Operand.tmp 75) 3, type := 3, pos := "ref.go:199", after := #[{ on := 7, ground := Ground.data }, { on := 24, ground := Ground.data }], guard := none }) (v := ?vd26_25) rfl (by kernel_rfl) (by kernel_rfl) (by kernel_rfl) (fun _ _ _ h => h) (Or.inl ⟨by rfl, ?yd26_25⟩) (by assumption) ?td26_25
            case yd26_25 => (intro w hSw; obtain ⟨u0, u1, u2, u3⟩ := hSw); go_simp; try with_reducible rfl
            simp only [Act.put, List.setIfInBounds_toArray, List.set_cons_zero, List.set_cons_succ]
            refine wpAnyH_ready (rs := [1, 26]) (by kernel_rfl) (by simp) ?_
            refine AllReadyH.cons (o := { dst := some 52, op := Op.load 23 (Operand.tmp 51), type := 23, pos := "ref.go:199", after := #[{ on := 0, ground := Ground.data }], guard := none }) rfl (fun K hK => ?_) ?_
            · go_simp
              refine hK.out _ _ (hHeld) (fun hHeld' => ?_)
              clear hK K hHeld
              have hHeld := hHeld'; clear hHeld'
              try simp only [Act.put, List.setIfInBounds_toArray, List.set_cons_zero, List.set_cons_succ]
              refine wpAnyH_ready (rs := [26]) (by kernel_rfl) (by simp) ?_
              refine AllReadyH.cons (o := { dst := some 77, op := Op.buildSlice 23 1 #[(0, Operand.tmp 76)], type := 23, pos := "ref.go:199", after := #[{ on := 25, ground := Ground.data }], guard := none }) rfl (fun K hK => ?_) AllReadyH.nil
              go_simp
              refine hK.out _ _ (HSA.out) (fun hHeld' => ?_)
              clear hK K hHeld
              have hHeld := hHeld'; clear hHeld'
              try simp only [Act.put, List.setIfInBounds_toArray, List.set_cons_zero, List.set_cons_succ]
              refine wpAnyH_ready (rs := [27]) (by kernel_rfl) (by simp) ?_
              refine AllReadyH.cons (o := { dst := some 78, op := Op.call { callee := Callee.builtin Go.Builtin.append, args := #[Operand.tmp 52, Operand.tmp 77], argTypes := #[23, 23] }, type := 23, pos := "ref.go:199", after := #[{ on := 1, ground := Ground.data }, { on := 26, ground := Ground.data }, { on := 24, ground := Ground.chain }], guard := none }) rfl (fun K hK => ?_) AllReadyH.nil
              rw [if_pos (show Region.wanted _ _ = true from rfl)]
              refine wp_append_lies _ (.tmp 52) (.tmp 77) 23 rfl w.heap.size 3 i0 _ 1 8 Try.underlying23 hi hz0 hz1 hz2 rfl (by decide) _ _ _ rfl HOwn.out ⟨wx.heap.size, 0, none⟩ 1 1 [.int .i64 (mn + p1)] rfl rfl HNW.out (by simp [Value.oneCell']) (by decide) (by unfold maxLen; omega) (by omega) hsw (wx.heap.size + 1) HHs.out ?_
              intro g cap w3 hown hgrow hg hglt
              have hM := HD.out g cap w3 hown hgrow hg
              obtain ⟨hM1, hM2, hM3, hM4, hM5, hM6⟩ := hM
              clear hown hgrow hg hglt
              refine hK.out _ _ (hM5) (fun hHeld' => ?_)
              clear hK K hHeld
              have hHeld := hHeld'; clear hHeld'
              try simp only [Act.put, List.setIfInBounds_toArray, List.set_cons_zero, List.set_cons_succ]
              refine wpAnyH_take (i := 28) (oi := { dst := some 79, op := Op.fieldAddr 67 (Operand.tmp 9) 0, type := 0, pos := "ref.go:199", after := #[{ on := 0, ground := Ground.phase }, { on := 1, ground := Ground.phase }, { on := 2, ground := Ground.phase }, { on := 3, ground := Ground.phase }, { on := 4, ground := Ground.phase }, { on := 5, ground := Ground.phase }, { on := 6, ground := Ground.phase }, { on := 7, ground := Ground.phase }, { on := 8, ground := Ground.phase }, { on := 9, ground := Ground.phase }, { on := 10, ground := Ground.phase }, { on := 11, ground := Ground.phase }, { on := 12, ground := Ground.phase }, { on := 13, ground := Ground.phase }, { on := 14, ground := Ground.phase }, { on := 15, ground := Ground.phase }, { on := 16, ground := Ground.phase }, { on := 17, ground := Ground.phase }, { on := 18, ground := Ground.phase }, { on := 19, ground := Ground.phase }, { on := 20, ground := Ground.phase }, { on := 21, ground := Ground.phase }, { on := 22, ground := Ground.phase }, { on := 23, ground := Ground.phase }, { on := 24, ground := Ground.phase }, { on := 25, ground := Ground.phase }, { on := 26, ground := Ground.phase }, { on := 27, ground := Ground.phase }], guard := none }) (v := ?vd27_28) rfl (by kernel_rfl) (by kernel_rfl) (by kernel_rfl) (fun _ _ _ h => h) (Or.inl ⟨by rfl, ?yd27_28⟩) (by assumption) ?td27_28
              case yd27_28 => (intro w hSw; obtain ⟨u0, u1, u2, u3⟩ := hSw); go_simp; try with_reducible rfl
              simp only [Act.put, List.setIfInBounds_toArray, List.set_cons_zero, List.set_cons_succ]
              refine wpAnyH_ready (rs := [29]) (by kernel_rfl) (by simp) ?_
              refine AllReadyH.cons (o := { dst := none, op := Op.store 23 (Operand.tmp 79) (Operand.tmp 78), type := 0, pos := "ref.go:199", after := #[{ on := 28, ground := Ground.data }, { on := 27, ground := Ground.data }, { on := 27, ground := Ground.chain }, { on := 0, ground := Ground.phase }, { on := 1, ground := Ground.phase }, { on := 2, ground := Ground.phase }, { on := 3, ground := Ground.phase }, { on := 4, ground := Ground.phase }, { on := 5, ground := Ground.phase }, { on := 6, ground := Ground.phase }, { on := 7, ground := Ground.phase }, { on := 8, ground := Ground.phase }, { on := 9, ground := Ground.phase }, { on := 10, ground := Ground.phase }, { on := 11, ground := Ground.phase }, { on := 12, ground := Ground.phase }, { on := 13, ground := Ground.phase }, { on := 14, ground := Ground.phase }, { on := 15, ground := Ground.phase }, { on := 16, ground := Ground.phase }, { on := 17, ground := Ground.phase }, { on := 18, ground := Ground.phase }, { on := 19, ground := Ground.phase }, { on := 20, ground := Ground.phase }, { on := 21, ground := Ground.phase }, { on := 22, ground := Ground.phase }, { on := 23, ground := Ground.phase }, { on := 24, ground := Ground.phase }, { on := 25, ground := Ground.phase }, { on := 26, ground := Ground.phase }, { on := 27, ground := Ground.phase }], guard := none }) rfl (fun K hK => ?_) AllReadyH.nil
              go_simp
              refine hK.out _ _ (hM6) (fun hHeld' => ?_)
              clear hK K hHeld
              have hHeld := hHeld'; clear hHeld'
              try simp only [Act.put, List.setIfInBounds_toArray, List.set_cons_zero, List.set_cons_succ]
              refine wpAnyH_done (by kernel_rfl) ?_ _
              have HM1 := Lib.hid hM1
              clear hM1 hM2 hM3 hM4 hM5 hM6
              go_wp2_with fail
              go_meet
              exact ⟨rfl, _, _, Lib.hid HM1.out⟩
            refine AllReadyH.cons (o := { dst := some 77, op := Op.buildSlice 23 1 #[(0, Operand.tmp 76)], type := 23, pos := "ref.go:199", after := #[{ on := 25, ground := Ground.data }], guard := none }) rfl (fun K hK => ?_) AllReadyH.nil
            go_simp
            refine hK.out _ _ (HSA.out) (fun hHeld' => ?_)
            clear hK K hHeld
            have hHeld := hHeld'; clear hHeld'
            try simp only [Act.put, List.setIfInBounds_toArray, List.set_cons_zero, List.set_cons_succ]
            refine wpAnyH_ready (rs := [1]) (by kernel_rfl) (by simp) ?_
            refine AllReadyH.cons (o := { dst := some 52, op := Op.load 23 (Operand.tmp 51), type := 23, pos := "ref.go:199", after := #[{ on := 0, ground := Ground.data }], guard := none }) rfl (fun K hK => ?_) AllReadyH.nil
            go_simp
            refine hK.out _ _ (hHeld) (fun hHeld' => ?_)
            clear hK K hHeld
            have hHeld := hHeld'; clear hHeld'
            try simp only [Act.put, List.setIfInBounds_toArray, List.set_cons_zero, List.set_cons_succ]
            refine wpAnyH_ready (rs := [27]) (by kernel_rfl) (by simp) ?_
            refine AllReadyH.cons (o := { dst := some 78, op := Op.call { callee := Callee.builtin Go.Builtin.append, args := #[Operand.tmp 52, Operand.tmp 77], argTypes := #[23, 23] }, type := 23, pos := "ref.go:199", after := #[{ on := 1, ground := Ground.data }, { on := 26, ground := Ground.data }, { on := 24, ground := Ground.chain }], guard := none }) rfl (fun K hK => ?_) AllReadyH.nil
            rw [if_pos (show Region.wanted _ _ = true from rfl)]
            refine wp_append_lies _ (.tmp 52) (.tmp 77) 23 rfl w.heap.size 3 i0 _ 1 8 Try.underlying23 hi hz0 hz1 hz2 rfl (by decide) _ _ _ rfl HOwn.out ⟨wx.heap.size, 0, none⟩ 1 1 [.int .i64 (mn + p1)] rfl rfl HNW.out (by simp [Value.oneCell']) (by decide) (by unfold maxLen; omega) (by omega) hsw (wx.heap.size + 1) HHs.out ?_
            intro g cap w3 hown hgrow hg hglt
            have hM := HD.out g cap w3 hown hgrow hg
            obtain ⟨hM1, hM2, hM3, hM4, hM5, hM6⟩ := hM
            clear hown hgrow hg hglt
            refine hK.out _ _ (hM5) (fun hHeld' => ?_)
            clear hK K hHeld
            have hHeld := hHeld'; clear hHeld'
            try simp only [Act.put, List.setIfInBounds_toArray, List.set_cons_zero, List.set_cons_succ]
            refine wpAnyH_take (i := 28) (oi := { dst := some 79, op := Op.fieldAddr 67 (Operand.tmp 9) 0, type := 0, pos := "ref.go:199", after := #[{ on := 0, ground := Ground.phase }, { on := 1, ground := Ground.phase }, { on := 2, ground := Ground.phase }, { on := 3, ground := Ground.phase }, { on := 4, ground := Ground.phase }, { on := 5, ground := Ground.phase }, { on := 6, ground := Ground.phase }, { on := 7, ground := Ground.phase }, { on := 8, ground := Ground.phase }, { on := 9, ground := Ground.phase }, { on := 10, ground := Ground.phase }, { on := 11, ground := Ground.phase }, { on := 12, ground := Ground.phase }, { on := 13, ground := Ground.phase }, { on := 14, ground := Ground.phase }, { on := 15, ground := Ground.phase }, { on := 16, ground := Ground.phase }, { on := 17, ground := Ground.phase }, { on := 18, ground := Ground.phase }, { on := 19, ground := Ground.phase }, { on := 20, ground := Ground.phase }, { on := 21, ground := Ground.phase }, { on := 22, ground := Ground.phase }, { on := 23, ground := Ground.phase }, { on := 24, ground := Ground.phase }, { on := 25, ground := Ground.phase }, { on := 26, ground := Ground.phase }, { on := 27, ground := Ground.phase }], guard := none }) (v := ?vd28_28) rfl (by kernel_rfl) (by kernel_rfl) (by kernel_rfl) (fun _ _ _ h => h) (Or.inl ⟨by rfl, ?yd28_28⟩) (by assumption) ?td28_28
            case yd28_28 => (intro w hSw; obtain ⟨u0, u1, u2, u3⟩ := hSw); go_simp; try with_reducible rfl
            simp only [Act.put, List.setIfInBounds_toArray, List.set_cons_zero, List.set_cons_succ]
            refine wpAnyH_ready (rs := [29]) (by kernel_rfl) (by simp) ?_
            refine AllReadyH.cons (o := { dst := none, op := Op.store 23 (Operand.tmp 79) (Operand.tmp 78), type := 0, pos := "ref.go:199", after := #[{ on := 28, ground := Ground.data }, { on := 27, ground := Ground.data }, { on := 27, ground := Ground.chain }, { on := 0, ground := Ground.phase }, { on := 1, ground := Ground.phase }, { on := 2, ground := Ground.phase }, { on := 3, ground := Ground.phase }, { on := 4, ground := Ground.phase }, { on := 5, ground := Ground.phase }, { on := 6, ground := Ground.phase }, { on := 7, ground := Ground.phase }, { on := 8, ground := Ground.phase }, { on := 9, ground := Ground.phase }, { on := 10, ground := Ground.phase }, { on := 11, ground := Ground.phase }, { on := 12, ground := Ground.phase }, { on := 13, ground := Ground.phase }, { on := 14, ground := Ground.phase }, { on := 15, ground := Ground.phase }, { on := 16, ground := Ground.phase }, { on := 17, ground := Ground.phase }, { on := 18, ground := Ground.phase }, { on := 19, ground := Ground.phase }, { on := 20, ground := Ground.phase }, { on := 21, ground := Ground.phase }, { on := 22, ground := Ground.phase }, { on := 23, ground := Ground.phase }, { on := 24, ground := Ground.phase }, { on := 25, ground := Ground.phase }, { on := 26, ground := Ground.phase }, { on := 27, ground := Ground.phase }], guard := none }) rfl (fun K hK => ?_) AllReadyH.nil
            go_simp
            refine hK.out _ _ (hM6) (fun hHeld' => ?_)
            clear hK K hHeld
            have hHeld := hHeld'; clear hHeld'
            try simp only [Act.put, List.setIfInBounds_toArray, List.set_cons_zero, List.set_cons_succ]
            refine wpAnyH_done (by kernel_rfl) ?_ _
            have HM1 := Lib.hid hM1
            clear hM1 hM2 hM3 hM4 hM5 hM6
            go_wp2_with fail
            go_meet
            exact ⟨rfl, _, _, Lib.hid HM1.out⟩
          case rest =>
            obtain ⟨rfl, da', dc', HC2⟩ := hcut
            clear HA HOwn HNW HHs hsw HD HC t0 s0 d3 HS0 HSA hS2 c0 c1 P1 x1 x2 x3
            rename World => wy
            have HC := HC2
            clear HC2
            obtain ⟨du2, hdu2⟩ : ∃ du2, du ++ [mn + p1] = du2 := ⟨_, rfl⟩
            rw [hdu2] at HC HE1
            clear hdu2
            have m1 := box_cell HC.out.1.pb 1 (.int .i64 mi) rfl
            have m2 := box_cell HC.out.1.pb 2 (.int .i64 ma) rfl
            have m3 := box_cell HC.out.1.pb 3 (.slice (some ⟨b, off, none⟩) st.length sc) rfl
            have s1 := box_cell HC.out.1.sb 1 (.slice mb mv.length mc) rfl
            have t1 := box_cell HC.out.2 1 (.int .i64 y1) rfl
            have HA := Lib.hid (show Below wy.heap.size wy (wy.drew.alloc (.cells #[.int .i64 (mi + p2)] 3)) from below_step (Below.refl _ _).drew (below_new wy.drew _))
            have HOwn := Lib.hid (show (wy.drew.alloc (.cells #[.int .i64 (mi + p2)] 3)).ownsRow w.heap.size 3 1 (.slice mb mv.length mc) mv.length (mv.flatMap intCells) from own_below HC.out.1.mrow HA.out)
            have HNW : Hid (∀ j u, [Value.int .i64 (mi + p2)][j]? = some u → (wy.drew.alloc (.cells #[.int .i64 (mi + p2)] 3)).cell? ((⟨wy.heap.size, 0, none⟩ : Addr).add j) = some u) := Lib.hid (World.news_of_block (w := (wy.drew.alloc (.cells #[.int .i64 (mi + p2)] 3))) (B := wy.heap.size) (cs := #[.int .i64 (mi + p2)]) (t := 3) (fr := (0, 0)) (heap_alloc_new wy.drew _))
            have HHs : Hid ((wy.drew.alloc (.cells #[.int .i64 (mi + p2)] 3)).heap.size = wy.heap.size + 1) := Lib.hid (World.size_alloc _ _)
            have hsw : w.heap.size ≤ (wy.drew.alloc (.cells #[.int .i64 (mi + p2)] 3)).heap.size := Nat.le_trans HC.out.1.bel.size HA.out.size
            have hS2 := HC.out.1.size
            have HS0 : Hid (wy.drew.cell? ⟨w.heap.size, 1, none⟩ = some (.int .i64 mi) ∧ wy.drew.cell? ⟨w.heap.size, 2, none⟩ = some (.int .i64 ma) ∧ wy.drew.cell? ⟨S, 1, none⟩ = some (.int .i64 y1) ∧ wy.drew.cell? ⟨w.heap.size, 3, none⟩ = some (.slice (some ⟨b, off, none⟩) st.length sc)) := Lib.hid ⟨m1, m2, t1, m3⟩
            have HSA : Hid ((wy.drew.alloc (.cells #[.int .i64 (mi + p2)] 3)).cell? ⟨w.heap.size, 1, none⟩ = some (.int .i64 mi) ∧ (wy.drew.alloc (.cells #[.int .i64 (mi + p2)] 3)).cell? ⟨w.heap.size, 2, none⟩ = some (.int .i64 ma) ∧ (wy.drew.alloc (.cells #[.int .i64 (mi + p2)] 3)).cell? ⟨S, 1, none⟩ = some (.int .i64 y1) ∧ (wy.drew.alloc (.cells #[.int .i64 (mi + p2)] 3)).cell? ⟨w.heap.size, 3, none⟩ = some (.slice (some ⟨b, off, none⟩) st.length sc)) := Lib.hid ⟨cell_below HA.out m1, cell_below HA.out m2, cell_below HA.out t1, cell_below HA.out m3⟩
            have HD : Hid (∀ (g cap : Nat) (w3 : World), w3.ownsRow w.heap.size 3 1 (.slice (some ⟨g, 0, none⟩) (mv.length + 1) cap) (mv.length + 1) (mv.flatMap intCells ++ [Value.int .i64 (mi + p2)]) → (wy.drew.alloc (.cells #[.int .i64 (mi + p2)] 3)).grownBy w3 (Value.slice mb mv.length mc).ownBlock → ((Value.slice mb mv.length mc).ownBlock = some g ∨ g = wy.heap.size + 1) →
                (ChM w ⟨⟨en, mi, ma, st, wn⟩, some ⟨b, off, none⟩, sc, wa, wc⟩ ⟨⟨du2, mv ++ [mi + p2], de, -1, 0⟩, da', dc', some ⟨g, 0, none⟩, cap⟩ (w3.setCell ⟨w.heap.size + 1 + 1, 1, none⟩ (.slice (some ⟨g, 0, none⟩) (mv.length + 1) cap)) ∧ (w3.setCell ⟨w.heap.size + 1 + 1, 1, none⟩ (.slice (some ⟨g, 0, none⟩) (mv.length + 1) cap)).heap[S]? = some (.cells #[.int .i64 y0, .int .i64 y1] 56)) ∧
                w3.cell? ⟨w.heap.size + 1 + 1, 1, none⟩ = some (.slice mb mv.length mc) ∧ w3.frozen? ⟨w.heap.size + 1 + 1, 1, none⟩ = false ∧ w.heap.size + 1 + 1 < w3.heap.size ∧ (w3.cell? ⟨w.heap.size, 1, none⟩ = some (.int .i64 mi) ∧ w3.cell? ⟨w.heap.size, 2, none⟩ = some (.int .i64 ma) ∧ w3.cell? ⟨S, 1, none⟩ = some (.int .i64 y1) ∧ w3.cell? ⟨w.heap.size, 3, none⟩ = some (.slice (some ⟨b, off, none⟩) st.length sc)) ∧ (w3.setCell ⟨w.heap.size + 1 + 1, 1, none⟩ (.slice (some ⟨g, 0, none⟩) (mv.length + 1) cap)).cell? ⟨w.heap.size, 1, none⟩ = some (.int .i64 mi) ∧ (w3.setCell ⟨w.heap.size + 1 + 1, 1, none⟩ (.slice (some ⟨g, 0, none⟩) (mv.length + 1) cap)).cell? ⟨w.heap.size, 2, none⟩ = some (.int .i64 ma) ∧ (w3.setCell ⟨w.heap.size + 1 + 1, 1, none⟩ (.slice (some ⟨g, 0, none⟩) (mv.length + 1) cap)).cell? ⟨S, 1, none⟩ = some (.int .i64 y1) ∧ (w3.setCell ⟨w.heap.size + 1 + 1, 1, none⟩ (.slice (some ⟨g, 0, none⟩) (mv.length + 1) cap)).cell? ⟨w.heap.size, 3, none⟩ = some (.slice (some ⟨b, off, none⟩) st.length sc)) := Lib.hid (fun g cap w3 hown hgrow hg => by
              obtain ⟨h1, h2⟩ := HC.out.1.mv (mi + p2) HA.out (a' := some ⟨g, 0, none⟩) (c' := cap) hown hgrow (fun k hk => by
                simp only [Value.ownBlock, Option.some.injEq] at hk
                subst hk
                rcases hg with h | h
                · exact .inl h
                · exact .inr (by rw [HHs.out]; omega))
              have hne := (HC.out.1.below HA.out).ne (j := S) (box_below HC.out.2 HA.out) (by decide)
              have hnp := (HC.out.1.below HA.out).ne (HC.out.1.below HA.out).pb (by decide)
              have far : ∀ (m o : Nat) (v : Value), (∀ b', (Value.slice mb mv.length mc).ownBlock = some b' → b' ≠ m) → (wy.drew.alloc (.cells #[.int .i64 (mi + p2)] 3)).cell? ⟨m, o, none⟩ = some v → w3.cell? ⟨m, o, none⟩ = some v := fun m o v hm hv =>
                (World.cell?_of_block (a := ⟨m, o, none⟩) (hgrow.block _ (World.block_lt_of_cell? _ _ hv) (fun e => hm m e.symm rfl))).trans hv
              have far2 : ∀ (m o : Nat) (v : Value), m ≠ w.heap.size + 1 + 1 → w3.cell? ⟨m, o, none⟩ = some v → (w3.setCell ⟨w.heap.size + 1 + 1, 1, none⟩ (.slice (some ⟨g, 0, none⟩) (mv.length + 1) cap)).cell? ⟨m, o, none⟩ = some v := fun m o v hm hv =>
                (World.cell?_of_block (a := ⟨m, o, none⟩) (Below.heap_setCell _ _ _ _ (show m ≠ w.heap.size + 1 + 1 from hm))).trans hv
              have k1 := far _ _ _ (fun b' hb' => hnp.2 b' hb') HSA.out.1
              have k2 := far _ _ _ (fun b' hb' => hnp.2 b' hb') HSA.out.2.1
              have k3 := far _ _ _ (fun b' hb' => hne.2 b' hb') HSA.out.2.2.1
              have k4 := far _ _ _ (fun b' hb' => hnp.2 b' hb') HSA.out.2.2.2
              refine ⟨⟨h1, ?_⟩, box_cell h2 1 _ rfl, box_fz h2 1, lt_of_block h2, ⟨k1, k2, k3, k4⟩, far2 _ _ _ (by omega) k1, far2 _ _ _ (by omega) k2, far2 _ _ _ (by omega) k3, far2 _ _ _ (by omega) k4⟩
              have hS3 := (hgrow.block _ (lt_of_block (box_below HC.out.2 HA.out)) (fun e => hne.2 _ e.symm rfl)).trans (box_below HC.out.2 HA.out)
              exact (Below.heap_setCell _ _ _ _ (show S ≠ w.heap.size + 1 + 1 by omega)).trans hS3)
            have e0 : IntKind.i64.wrap ((k : Int) + 1) = (k : Int) + 1 := IntWalk.i64_in _ (by omega)
            go_upto_region 11 with (fail)
            refine wp_region_held_drew (S := (fun v => v.cell? ⟨w.heap.size, 1, none⟩ = some (.int .i64 mi) ∧ v.cell? ⟨w.heap.size, 2, none⟩ = some (.int .i64 ma) ∧ v.cell? ⟨S, 1, none⟩ = some (.int .i64 y1) ∧ v.cell? ⟨w.heap.size, 3, none⟩ = some (.slice (some ⟨b, off, none⟩) st.length sc))) (by kernel_rfl) (HS0.out) (fun hHeld => ?_)
            refine wpAnyH_take (i := 0) (oi := { dst := some 80, op := Op.fieldAddr 67 (Operand.tmp 9) 1, type := 0, pos := "ref.go:200", after := #[], guard := none }) (v := ?vf1_0) rfl (by kernel_rfl) (by kernel_rfl) (by kernel_rfl) (fun _ _ _ h => h) (Or.inl ⟨by rfl, ?yf1_0⟩) (by assumption) ?tf1_0
            case yf1_0 => (intro w hSw; obtain ⟨u0, u1, u2, u3⟩ := hSw); go_simp; try with_reducible rfl
            simp only [Act.put, List.setIfInBounds_toArray, List.set_cons_zero, List.set_cons_succ]
            refine wpAnyH_take (i := 2) (oi := { dst := some 82, op := Op.fieldAddr 64 (Operand.tmp 4) 1, type := 0, pos := "ref.go:200", after := #[], guard := none }) (v := ?vf2_2) rfl (by kernel_rfl) (by kernel_rfl) (by kernel_rfl) (fun _ _ _ h => h) (Or.inl ⟨by rfl, ?yf2_2⟩) (by assumption) ?tf2_2
            case yf2_2 => (intro w hSw; obtain ⟨u0, u1, u2, u3⟩ := hSw); go_simp; try with_reducible rfl
            simp only [Act.put, List.setIfInBounds_toArray, List.set_cons_zero, List.set_cons_succ]
            refine wpAnyH_take (i := 3) (oi := { dst := some 83, op := Op.load 3 (Operand.tmp 82), type := 3, pos := "ref.go:200", after := #[{ on := 2, ground := Ground.data }], guard := none }) (v := ?vf3_3) rfl (by kernel_rfl) (by kernel_rfl) (by kernel_rfl) (fun _ _ _ h => h) (Or.inl ⟨by rfl, ?yf3_3⟩) (by assumption) ?tf3_3
            case yf3_3 => (intro w hSw; obtain ⟨u0, u1, u2, u3⟩ := hSw); go_simp; try with_reducible rfl
            simp only [Act.put, List.setIfInBounds_toArray, List.set_cons_zero, List.set_cons_succ]
            refine wpAnyH_take (i := 4) (oi := { dst := some 84, op := Op.indexAddr 56 (Operand.tmp 11) (Operand.const (Value.int IntKind.i64 1)), type := 0, pos := "ref.go:200", after := #[], guard := none }) (v := ?vf4_4) rfl (by kernel_rfl) (by kernel_rfl) (by kernel_rfl) (fun _ _ _ h => h) (Or.inl ⟨by rfl, ?yf4_4⟩) (by assumption) ?tf4_4
            case yf4_4 => (intro w hSw; obtain ⟨u0, u1, u2, u3⟩ := hSw); go_simp; try with_reducible rfl
            simp only [Act.put, List.setIfInBounds_toArray, List.set_cons_zero, List.set_cons_succ]
            refine wpAnyH_take (i := 5) (oi := { dst := some 85, op := Op.load 3 (Operand.tmp 84), type := 3, pos := "ref.go:200", after := #[{ on := 4, ground := Ground.data }], guard := none }) (v := ?vf5_5) rfl (by kernel_rfl) (by kernel_rfl) (by kernel_rfl) (fun _ _ _ h => h) (Or.inl ⟨by rfl, ?yf5_5⟩) (by assumption) ?tf5_5
            case yf5_5 => (intro w hSw; obtain ⟨u0, u1, u2, u3⟩ := hSw); go_simp; try with_reducible rfl
            simp only [Act.put, List.setIfInBounds_toArray, List.set_cons_zero, List.set_cons_succ]
            refine wpAnyH_take (i := 6) (oi := { dst := some 86, op := Op.fieldAddr 64 (Operand.tmp 4) 2, type := 0, pos := "ref.go:200", after := #[], guard := none }) (v := ?vf6_6) rfl (by kernel_rfl) (by kernel_rfl) (by kernel_rfl) (fun _ _ _ h => h) (Or.inl ⟨by rfl, ?yf6_6⟩) (by assumption) ?tf6_6
            case yf6_6 => (intro w hSw; obtain ⟨u0, u1, u2, u3⟩ := hSw); go_simp; try with_reducible rfl
            simp only [Act.put, List.setIfInBounds_toArray, List.set_cons_zero, List.set_cons_succ]
            refine wpAnyH_take (i := 7) (oi := { dst := some 87, op := Op.load 3 (Operand.tmp 86), type := 3, pos := "ref.go:200", after := #[{ on := 6, ground := Ground.data }], guard := none }) (v := ?vf7_7) rfl (by kernel_rfl) (by kernel_rfl) (by kernel_rfl) (fun _ _ _ h => h) (Or.inl ⟨by rfl, ?yf7_7⟩) (by assumption) ?tf7_7
            case yf7_7 => (intro w hSw; obtain ⟨u0, u1, u2, u3⟩ := hSw); go_simp; try with_reducible rfl
            simp only [Act.put, List.setIfInBounds_toArray, List.set_cons_zero, List.set_cons_succ]
            refine wpAnyH_take (i := 8) (oi := { dst := some 88, op := Op.fieldAddr 64 (Operand.tmp 4) 1, type := 0, pos := "ref.go:200", after := #[], guard := none }) (v := ?vf8_8) rfl (by kernel_rfl) (by kernel_rfl) (by kernel_rfl) (fun _ _ _ h => h) (Or.inl ⟨by rfl, ?yf8_8⟩) (by assumption) ?tf8_8
            case yf8_8 => (intro w hSw; obtain ⟨u0, u1, u2, u3⟩ := hSw); go_simp; try with_reducible rfl
            simp only [Act.put, List.setIfInBounds_toArray, List.set_cons_zero, List.set_cons_succ]
            refine wpAnyH_take (i := 9) (oi := { dst := some 89, op := Op.load 3 (Operand.tmp 88), type := 3, pos := "ref.go:200", after := #[{ on := 8, ground := Ground.data }], guard := none }) (v := ?vf9_9) rfl (by kernel_rfl) (by kernel_rfl) (by kernel_rfl) (fun _ _ _ h => h) (Or.inl ⟨by rfl, ?yf9_9⟩) (by assumption) ?tf9_9
            case yf9_9 => (intro w hSw; obtain ⟨u0, u1, u2, u3⟩ := hSw); go_simp; try with_reducible rfl
            simp only [Act.put, List.setIfInBounds_toArray, List.set_cons_zero, List.set_cons_succ]
            refine wpAnyH_take (i := 10) (oi := { dst := some 90, op := Op.binOp BinOp.sub 3 (Operand.tmp 87) (Operand.tmp 89) 3, type := 3, pos := "ref.go:200", after := #[{ on := 7, ground := Ground.data }, { on := 9, ground := Ground.data }], guard := none }) (v := ?vf10_10) rfl (by kernel_rfl) (by kernel_rfl) (by kernel_rfl) (fun _ _ _ h => h) (Or.inl ⟨by rfl, ?yf10_10⟩) (by assumption) ?tf10_10
            case yf10_10 => (intro w hSw; obtain ⟨u0, u1, u2, u3⟩ := hSw); go_simp; try with_reducible rfl
            simp only [Act.put, List.setIfInBounds_toArray, List.set_cons_zero, List.set_cons_succ]
            refine wpAnyH_take (i := 11) (oi := { dst := some 91, op := Op.binOp BinOp.add 3 (Operand.tmp 90) (Operand.const (Value.int IntKind.i64 1)) 3, type := 3, pos := "ref.go:200", after := #[{ on := 10, ground := Ground.data }], guard := none }) (v := ?vf11_11) rfl (by kernel_rfl) (by kernel_rfl) (by kernel_rfl) (fun _ _ _ h => h) (Or.inl ⟨by rfl, ?yf11_11⟩) (by assumption) ?tf11_11
            case yf11_11 => (intro w hSw; obtain ⟨u0, u1, u2, u3⟩ := hSw); go_simp; try with_reducible rfl
            simp only [Act.put, List.setIfInBounds_toArray, List.set_cons_zero, List.set_cons_succ]
            refine wpAnyH_ready (rs := [1, 12]) (by kernel_rfl) (by simp) ?_
            refine AllReadyH.cons (o := { dst := some 81, op := Op.load 23 (Operand.tmp 80), type := 23, pos := "ref.go:200", after := #[{ on := 0, ground := Ground.data }], guard := none }) rfl (fun K hK => ?_) ?_
            · go_simp
              refine hK.out _ _ (hHeld) (fun hHeld' => ?_)
              clear hK K hHeld
              have hHeld := hHeld'; clear hHeld'
              try simp only [Act.put, List.setIfInBounds_toArray, List.set_cons_zero, List.set_cons_succ]
              refine wpAnyH_ready (rs := [12]) (by kernel_rfl) (by simp) ?_
              refine AllReadyH.cons (o := { dst := some 92, op := Op.call { callee := Callee.value (Operand.func 61), args := #[Operand.tmp 85, Operand.tmp 91], argTypes := #[3, 3] }, type := 3, pos := "ref.go:200", after := #[{ on := 5, ground := Ground.data }, { on := 11, ground := Ground.data }], guard := none }) rfl (fun K hK => ?_) AllReadyH.nil
              go_simp
              refine (P2.out _).mono ?_; rintro e wc1 ⟨rfl, rfl⟩
              refine hK.out _ _ (hHeld) (fun hHeld' => ?_)
              clear hK K hHeld
              have hHeld := hHeld'; clear hHeld'
              try simp only [Act.put, List.setIfInBounds_toArray, List.set_cons_zero, List.set_cons_succ]
              refine wpAnyH_take (i := 13) (oi := { dst := some 93, op := Op.binOp BinOp.add 3 (Operand.tmp 83) (Operand.tmp 92) 3, type := 3, pos := "ref.go:200", after := #[{ on := 3, ground := Ground.data }, { on := 12, ground := Ground.data }], guard := none }) (v := ?vf12_13) rfl (by kernel_rfl) (by kernel_rfl) (by kernel_rfl) (fun _ _ _ h => h) (Or.inl ⟨by rfl, ?yf12_13⟩) (by assumption) ?tf12_13
              case yf12_13 => (intro w hSw; obtain ⟨u0, u1, u2, u3⟩ := hSw); go_simp; try with_reducible rfl
              simp only [Act.put, List.setIfInBounds_toArray, List.set_cons_zero, List.set_cons_succ]
              refine wpAnyH_ready (rs := [14]) (by kernel_rfl) (by simp) ?_
              refine AllReadyH.cons (o := { dst := some 94, op := Op.buildSlice 23 1 #[(0, Operand.tmp 93)], type := 23, pos := "ref.go:200", after := #[{ on := 13, ground := Ground.data }], guard := none }) rfl (fun K hK => ?_) AllReadyH.nil
              go_simp
              refine hK.out _ _ (HSA.out) (fun hHeld' => ?_)
              clear hK K hHeld
              have hHeld := hHeld'; clear hHeld'
              try simp only [Act.put, List.setIfInBounds_toArray, List.set_cons_zero, List.set_cons_succ]
              refine wpAnyH_ready (rs := [15]) (by kernel_rfl) (by simp) ?_
              refine AllReadyH.cons (o := { dst := some 95, op := Op.call { callee := Callee.builtin Go.Builtin.append, args := #[Operand.tmp 81, Operand.tmp 94], argTypes := #[23, 23] }, type := 23, pos := "ref.go:200", after := #[{ on := 1, ground := Ground.data }, { on := 14, ground := Ground.data }, { on := 12, ground := Ground.chain }], guard := none }) rfl (fun K hK => ?_) AllReadyH.nil
              rw [if_pos (show Region.wanted _ _ = true from rfl)]
              refine wp_append_lies _ (.tmp 81) (.tmp 94) 23 rfl w.heap.size 3 i0 _ 1 8 Try.underlying23 hi hz0 hz1 hz2 rfl (by decide) _ _ _ rfl HOwn.out ⟨wy.heap.size, 0, none⟩ 1 1 [.int .i64 (mi + p2)] rfl rfl HNW.out (by simp [Value.oneCell']) (by decide) (by unfold maxLen; omega) (by omega) hsw (wy.heap.size + 1) HHs.out ?_
              intro g cap w3 hown hgrow hg hglt
              have hM := HD.out g cap w3 hown hgrow hg
              obtain ⟨hM1, hM2, hM3, hM4, hM5, hM6⟩ := hM
              clear hown hgrow hg hglt
              refine hK.out _ _ (hM5) (fun hHeld' => ?_)
              clear hK K hHeld
              have hHeld := hHeld'; clear hHeld'
              try simp only [Act.put, List.setIfInBounds_toArray, List.set_cons_zero, List.set_cons_succ]
              refine wpAnyH_take (i := 16) (oi := { dst := some 96, op := Op.fieldAddr 67 (Operand.tmp 9) 1, type := 0, pos := "ref.go:200", after := #[{ on := 0, ground := Ground.phase }, { on := 1, ground := Ground.phase }, { on := 2, ground := Ground.phase }, { on := 3, ground := Ground.phase }, { on := 4, ground := Ground.phase }, { on := 5, ground := Ground.phase }, { on := 6, ground := Ground.phase }, { on := 7, ground := Ground.phase }, { on := 8, ground := Ground.phase }, { on := 9, ground := Ground.phase }, { on := 10, ground := Ground.phase }, { on := 11, ground := Ground.phase }, { on := 12, ground := Ground.phase }, { on := 13, ground := Ground.phase }, { on := 14, ground := Ground.phase }, { on := 15, ground := Ground.phase }], guard := none }) (v := ?vf13_16) rfl (by kernel_rfl) (by kernel_rfl) (by kernel_rfl) (fun _ _ _ h => h) (Or.inl ⟨by rfl, ?yf13_16⟩) (by assumption) ?tf13_16
              case yf13_16 => (intro w hSw; obtain ⟨u0, u1, u2, u3⟩ := hSw); go_simp; try with_reducible rfl
              simp only [Act.put, List.setIfInBounds_toArray, List.set_cons_zero, List.set_cons_succ]
              refine wpAnyH_ready (rs := [17]) (by kernel_rfl) (by simp) ?_
              refine AllReadyH.cons (o := { dst := none, op := Op.store 23 (Operand.tmp 96) (Operand.tmp 95), type := 0, pos := "ref.go:200", after := #[{ on := 16, ground := Ground.data }, { on := 15, ground := Ground.data }, { on := 15, ground := Ground.chain }, { on := 0, ground := Ground.phase }, { on := 1, ground := Ground.phase }, { on := 2, ground := Ground.phase }, { on := 3, ground := Ground.phase }, { on := 4, ground := Ground.phase }, { on := 5, ground := Ground.phase }, { on := 6, ground := Ground.phase }, { on := 7, ground := Ground.phase }, { on := 8, ground := Ground.phase }, { on := 9, ground := Ground.phase }, { on := 10, ground := Ground.phase }, { on := 11, ground := Ground.phase }, { on := 12, ground := Ground.phase }, { on := 13, ground := Ground.phase }, { on := 14, ground := Ground.phase }, { on := 15, ground := Ground.phase }], guard := none }) rfl (fun K hK => ?_) AllReadyH.nil
              go_simp
              refine hK.out _ _ (hM6) (fun hHeld' => ?_)
              clear hK K hHeld
              have hHeld := hHeld'; clear hHeld'
              try simp only [Act.put, List.setIfInBounds_toArray, List.set_cons_zero, List.set_cons_succ]
              refine wpAnyH_done (by kernel_rfl) ?_ _
              have HM1 := Lib.hid hM1
              clear hM1 hM2 hM3 hM4 hM5 hM6
              go_wp2_with fail
              go_roundg (st.length - (k + 1))
              case rel => exact ⟨k + 1, da', _, dc', _, by omega, rfl, by go_num, Lib.hid (by rw [HE1.out, HE2.out]; exact HM1.out.1)⟩
              case measure => omega
            refine AllReadyH.cons (o := { dst := some 92, op := Op.call { callee := Callee.value (Operand.func 61), args := #[Operand.tmp 85, Operand.tmp 91], argTypes := #[3, 3] }, type := 3, pos := "ref.go:200", after := #[{ on := 5, ground := Ground.data }, { on := 11, ground := Ground.data }], guard := none }) rfl (fun K hK => ?_) AllReadyH.nil
            go_simp
            refine (P2.out _).mono ?_; rintro e wc1 ⟨rfl, rfl⟩
            refine hK.out _ _ (hHeld) (fun hHeld' => ?_)
            clear hK K hHeld
            have hHeld := hHeld'; clear hHeld'
            try simp only [Act.put, List.setIfInBounds_toArray, List.set_cons_zero, List.set_cons_succ]
            refine wpAnyH_take (i := 13) (oi := { dst := some 93, op := Op.binOp BinOp.add 3 (Operand.tmp 83) (Operand.tmp 92) 3, type := 3, pos := "ref.go:200", after := #[{ on := 3, ground := Ground.data }, { on := 12, ground := Ground.data }], guard := none }) (v := ?vf14_13) rfl (by kernel_rfl) (by kernel_rfl) (by kernel_rfl) (fun _ _ _ h => h) (Or.inl ⟨by rfl, ?yf14_13⟩) (by assumption) ?tf14_13
            case yf14_13 => (intro w hSw; obtain ⟨u0, u1, u2, u3⟩ := hSw); go_simp; try with_reducible rfl
            simp only [Act.put, List.setIfInBounds_toArray, List.set_cons_zero, List.set_cons_succ]
            refine wpAnyH_ready (rs := [1, 14]) (by kernel_rfl) (by simp) ?_
            refine AllReadyH.cons (o := { dst := some 81, op := Op.load 23 (Operand.tmp 80), type := 23, pos := "ref.go:200", after := #[{ on := 0, ground := Ground.data }], guard := none }) rfl (fun K hK => ?_) ?_
            · go_simp
              refine hK.out _ _ (hHeld) (fun hHeld' => ?_)
              clear hK K hHeld
              have hHeld := hHeld'; clear hHeld'
              try simp only [Act.put, List.setIfInBounds_toArray, List.set_cons_zero, List.set_cons_succ]
              refine wpAnyH_ready (rs := [14]) (by kernel_rfl) (by simp) ?_
              refine AllReadyH.cons (o := { dst := some 94, op := Op.buildSlice 23 1 #[(0, Operand.tmp 93)], type := 23, pos := "ref.go:200", after := #[{ on := 13, ground := Ground.data }], guard := none }) rfl (fun K hK => ?_) AllReadyH.nil
              go_simp
              refine hK.out _ _ (HSA.out) (fun hHeld' => ?_)
              clear hK K hHeld
              have hHeld := hHeld'; clear hHeld'
              try simp only [Act.put, List.setIfInBounds_toArray, List.set_cons_zero, List.set_cons_succ]
              refine wpAnyH_ready (rs := [15]) (by kernel_rfl) (by simp) ?_
              refine AllReadyH.cons (o := { dst := some 95, op := Op.call { callee := Callee.builtin Go.Builtin.append, args := #[Operand.tmp 81, Operand.tmp 94], argTypes := #[23, 23] }, type := 23, pos := "ref.go:200", after := #[{ on := 1, ground := Ground.data }, { on := 14, ground := Ground.data }, { on := 12, ground := Ground.chain }], guard := none }) rfl (fun K hK => ?_) AllReadyH.nil
              rw [if_pos (show Region.wanted _ _ = true from rfl)]
              refine wp_append_lies _ (.tmp 81) (.tmp 94) 23 rfl w.heap.size 3 i0 _ 1 8 Try.underlying23 hi hz0 hz1 hz2 rfl (by decide) _ _ _ rfl HOwn.out ⟨wy.heap.size, 0, none⟩ 1 1 [.int .i64 (mi + p2)] rfl rfl HNW.out (by simp [Value.oneCell']) (by decide) (by unfold maxLen; omega) (by omega) hsw (wy.heap.size + 1) HHs.out ?_
              intro g cap w3 hown hgrow hg hglt
              have hM := HD.out g cap w3 hown hgrow hg
              obtain ⟨hM1, hM2, hM3, hM4, hM5, hM6⟩ := hM
              clear hown hgrow hg hglt
              refine hK.out _ _ (hM5) (fun hHeld' => ?_)
              clear hK K hHeld
              have hHeld := hHeld'; clear hHeld'
              try simp only [Act.put, List.setIfInBounds_toArray, List.set_cons_zero, List.set_cons_succ]
              refine wpAnyH_take (i := 16) (oi := { dst := some 96, op := Op.fieldAddr 67 (Operand.tmp 9) 1, type := 0, pos := "ref.go:200", after := #[{ on := 0, ground := Ground.phase }, { on := 1, ground := Ground.phase }, { on := 2, ground := Ground.phase }, { on := 3, ground := Ground.phase }, { on := 4, ground := Ground.phase }, { on := 5, ground := Ground.phase }, { on := 6, ground := Ground.phase }, { on := 7, ground := Ground.phase }, { on := 8, ground := Ground.phase }, { on := 9, ground := Ground.phase }, { on := 10, ground := Ground.phase }, { on := 11, ground := Ground.phase }, { on := 12, ground := Ground.phase }, { on := 13, ground := Ground.phase }, { on := 14, ground := Ground.phase }, { on := 15, ground := Ground.phase }], guard := none }) (v := ?vf15_16) rfl (by kernel_rfl) (by kernel_rfl) (by kernel_rfl) (fun _ _ _ h => h) (Or.inl ⟨by rfl, ?yf15_16⟩) (by assumption) ?tf15_16
              case yf15_16 => (intro w hSw; obtain ⟨u0, u1, u2, u3⟩ := hSw); go_simp; try with_reducible rfl
              simp only [Act.put, List.setIfInBounds_toArray, List.set_cons_zero, List.set_cons_succ]
              refine wpAnyH_ready (rs := [17]) (by kernel_rfl) (by simp) ?_
              refine AllReadyH.cons (o := { dst := none, op := Op.store 23 (Operand.tmp 96) (Operand.tmp 95), type := 0, pos := "ref.go:200", after := #[{ on := 16, ground := Ground.data }, { on := 15, ground := Ground.data }, { on := 15, ground := Ground.chain }, { on := 0, ground := Ground.phase }, { on := 1, ground := Ground.phase }, { on := 2, ground := Ground.phase }, { on := 3, ground := Ground.phase }, { on := 4, ground := Ground.phase }, { on := 5, ground := Ground.phase }, { on := 6, ground := Ground.phase }, { on := 7, ground := Ground.phase }, { on := 8, ground := Ground.phase }, { on := 9, ground := Ground.phase }, { on := 10, ground := Ground.phase }, { on := 11, ground := Ground.phase }, { on := 12, ground := Ground.phase }, { on := 13, ground := Ground.phase }, { on := 14, ground := Ground.phase }, { on := 15, ground := Ground.phase }], guard := none }) rfl (fun K hK => ?_) AllReadyH.nil
              go_simp
              refine hK.out _ _ (hM6) (fun hHeld' => ?_)
              clear hK K hHeld
              have hHeld := hHeld'; clear hHeld'
              try simp only [Act.put, List.setIfInBounds_toArray, List.set_cons_zero, List.set_cons_succ]
              refine wpAnyH_done (by kernel_rfl) ?_ _
              have HM1 := Lib.hid hM1
              clear hM1 hM2 hM3 hM4 hM5 hM6
              go_wp2_with fail
              go_roundg (st.length - (k + 1))
              case rel => exact ⟨k + 1, da', _, dc', _, by omega, rfl, by go_num, Lib.hid (by rw [HE1.out, HE2.out]; exact HM1.out.1)⟩
              case measure => omega
            refine AllReadyH.cons (o := { dst := some 94, op := Op.buildSlice 23 1 #[(0, Operand.tmp 93)], type := 23, pos := "ref.go:200", after := #[{ on := 13, ground := Ground.data }], guard := none }) rfl (fun K hK => ?_) AllReadyH.nil
            go_simp
            refine hK.out _ _ (HSA.out) (fun hHeld' => ?_)
            clear hK K hHeld
            have hHeld := hHeld'; clear hHeld'
            try simp only [Act.put, List.setIfInBounds_toArray, List.set_cons_zero, List.set_cons_succ]
            refine wpAnyH_ready (rs := [1]) (by kernel_rfl) (by simp) ?_
            refine AllReadyH.cons (o := { dst := some 81, op := Op.load 23 (Operand.tmp 80), type := 23, pos := "ref.go:200", after := #[{ on := 0, ground := Ground.data }], guard := none }) rfl (fun K hK => ?_) AllReadyH.nil
            go_simp
            refine hK.out _ _ (hHeld) (fun hHeld' => ?_)
            clear hK K hHeld
            have hHeld := hHeld'; clear hHeld'
            try simp only [Act.put, List.setIfInBounds_toArray, List.set_cons_zero, List.set_cons_succ]
            refine wpAnyH_ready (rs := [15]) (by kernel_rfl) (by simp) ?_
            refine AllReadyH.cons (o := { dst := some 95, op := Op.call { callee := Callee.builtin Go.Builtin.append, args := #[Operand.tmp 81, Operand.tmp 94], argTypes := #[23, 23] }, type := 23, pos := "ref.go:200", after := #[{ on := 1, ground := Ground.data }, { on := 14, ground := Ground.data }, { on := 12, ground := Ground.chain }], guard := none }) rfl (fun K hK => ?_) AllReadyH.nil
            rw [if_pos (show Region.wanted _ _ = true from rfl)]
            refine wp_append_lies _ (.tmp 81) (.tmp 94) 23 rfl w.heap.size 3 i0 _ 1 8 Try.underlying23 hi hz0 hz1 hz2 rfl (by decide) _ _ _ rfl HOwn.out ⟨wy.heap.size, 0, none⟩ 1 1 [.int .i64 (mi + p2)] rfl rfl HNW.out (by simp [Value.oneCell']) (by decide) (by unfold maxLen; omega) (by omega) hsw (wy.heap.size + 1) HHs.out ?_
            intro g cap w3 hown hgrow hg hglt
            have hM := HD.out g cap w3 hown hgrow hg
            obtain ⟨hM1, hM2, hM3, hM4, hM5, hM6⟩ := hM
            clear hown hgrow hg hglt
            refine hK.out _ _ (hM5) (fun hHeld' => ?_)
            clear hK K hHeld
            have hHeld := hHeld'; clear hHeld'
            try simp only [Act.put, List.setIfInBounds_toArray, List.set_cons_zero, List.set_cons_succ]
            refine wpAnyH_take (i := 16) (oi := { dst := some 96, op := Op.fieldAddr 67 (Operand.tmp 9) 1, type := 0, pos := "ref.go:200", after := #[{ on := 0, ground := Ground.phase }, { on := 1, ground := Ground.phase }, { on := 2, ground := Ground.phase }, { on := 3, ground := Ground.phase }, { on := 4, ground := Ground.phase }, { on := 5, ground := Ground.phase }, { on := 6, ground := Ground.phase }, { on := 7, ground := Ground.phase }, { on := 8, ground := Ground.phase }, { on := 9, ground := Ground.phase }, { on := 10, ground := Ground.phase }, { on := 11, ground := Ground.phase }, { on := 12, ground := Ground.phase }, { on := 13, ground := Ground.phase }, { on := 14, ground := Ground.phase }, { on := 15, ground := Ground.phase }], guard := none }) (v := ?vf16_16) rfl (by kernel_rfl) (by kernel_rfl) (by kernel_rfl) (fun _ _ _ h => h) (Or.inl ⟨by rfl, ?yf16_16⟩) (by assumption) ?tf16_16
            case yf16_16 => (intro w hSw; obtain ⟨u0, u1, u2, u3⟩ := hSw); go_simp; try with_reducible rfl
            simp only [Act.put, List.setIfInBounds_toArray, List.set_cons_zero, List.set_cons_succ]
            refine wpAnyH_ready (rs := [17]) (by kernel_rfl) (by simp) ?_
            refine AllReadyH.cons (o := { dst := none, op := Op.store 23 (Operand.tmp 96) (Operand.tmp 95), type := 0, pos := "ref.go:200", after := #[{ on := 16, ground := Ground.data }, { on := 15, ground := Ground.data }, { on := 15, ground := Ground.chain }, { on := 0, ground := Ground.phase }, { on := 1, ground := Ground.phase }, { on := 2, ground := Ground.phase }, { on := 3, ground := Ground.phase }, { on := 4, ground := Ground.phase }, { on := 5, ground := Ground.phase }, { on := 6, ground := Ground.phase }, { on := 7, ground := Ground.phase }, { on := 8, ground := Ground.phase }, { on := 9, ground := Ground.phase }, { on := 10, ground := Ground.phase }, { on := 11, ground := Ground.phase }, { on := 12, ground := Ground.phase }, { on := 13, ground := Ground.phase }, { on := 14, ground := Ground.phase }, { on := 15, ground := Ground.phase }], guard := none }) rfl (fun K hK => ?_) AllReadyH.nil
            go_simp
            refine hK.out _ _ (hM6) (fun hHeld' => ?_)
            clear hK K hHeld
            have hHeld := hHeld'; clear hHeld'
            try simp only [Act.put, List.setIfInBounds_toArray, List.set_cons_zero, List.set_cons_succ]
            refine wpAnyH_done (by kernel_rfl) ?_ _
            have HM1 := Lib.hid hM1
            clear hM1 hM2 hM3 hM4 hM5 hM6
            go_wp2_with fail
            go_roundg (st.length - (k + 1))
            case rel => exact ⟨k + 1, da', _, dc', _, by omega, rfl, by go_num, Lib.hid (by rw [HE1.out, HE2.out]; exact HM1.out.1)⟩
            case measure => omega
      · obtain rfl : k = st.length := by omega
        have HLd := Lib.hid (Pl.dursTo_len ⟨en, mi, ma, st, wn⟩ Y st.length); have HLm := Lib.hid (Pl.mvsTo_len ⟨en, mi, ma, st, wn⟩ Y st.length)
        have HCh := Lib.hid (show Pl.chosen ⟨en, mi, ma, st, wn⟩ Y tool at_ = ⟨Pl.dursTo ⟨en, mi, ma, st, wn⟩ Y st.length, Pl.mvsTo ⟨en, mi, ma, st, wn⟩ Y st.length, de, Pl.chTool ⟨en, mi, ma, st, wn⟩ tool, Pl.chAt ⟨en, mi, ma, st, wn⟩ tool at_⟩ by unfold Pl.chosen; rw [HDe.out])
        generalize Pl.dursTo ⟨en, mi, ma, st, wn⟩ Y st.length = du at *
        generalize Pl.mvsTo ⟨en, mi, ma, st, wn⟩ Y st.length = mv at *
        have HT := Lib.hid (show Pl.chTool ⟨en, mi, ma, st, wn⟩ tool = if pickZ tool 4 > 0 then (st.getD (Pl.chI ⟨en, mi, ma, st, wn⟩ tool) Pl.stage0).m.tool else -1 from rfl)
        have HAt := Lib.hid (show Pl.chAt ⟨en, mi, ma, st, wn⟩ tool at_ = if pickZ tool 4 > 0 then (if pickZ at_ 3 > 0 then max 0 ((st.getD (Pl.chI ⟨en, mi, ma, st, wn⟩ tool) Pl.stage0).m.start - 20 + pickZ (at_.tdiv 3) 50) else pickZ at_ ((st.getD (st.length - 1) Pl.stage0).s.start + 50)) else 0 from rfl)
        have HI := Lib.hid (show ((Pl.chI ⟨en, mi, ma, st, wn⟩ tool : Nat) : Int) = pickZ (tool.tdiv 4) st.length by
          have := pickZ_bd (c := tool.tdiv 4) (n := st.length) (by omega)
          show (((pickZ (tool.tdiv 4) st.length).toNat : Nat) : Int) = _
          omega)
        have hci := Pl.chI_lt HF.out tool
        have hsi := HF.out.at hci
        have hsl := HF.out.at (show st.length - 1 < st.length by omega)
        change Pl.chI ⟨en, mi, ma, st, wn⟩ tool < st.length at hci
        change Pl.Small 1000 (st.getD (Pl.chI ⟨en, mi, ma, st, wn⟩ tool) Pl.stage0) at hsi
        change Pl.Small 1000 (st.getD (st.length - 1) Pl.stage0) at hsl
        generalize Pl.chI ⟨en, mi, ma, st, wn⟩ tool = ci at *
        obtain ⟨b, off, rfl, hb, -, -, x2, x3, -, -⟩ := st_getD HQ.out.st hci
        obtain ⟨b', off', e', -, -, -, -, -, -, x5⟩ := st_getD HQ.out.st (show st.length - 1 < st.length by omega)
        injection e' with e'
        injection e' with e1' e2'
        subst e1'; subst e2'
        simp only at x2 x3 x5
        have hm := hsi.ms; have hl := hsl.ss
        generalize (st.getD ci Pl.stage0).m.tool = tl0 at *
        generalize (st.getD ci Pl.stage0).m.start = ms0 at *
        generalize (st.getD (st.length - 1) Pl.stage0).s.start = ss0 at *
        obtain ⟨hm1, hm2⟩ := hm; obtain ⟨hl1, hl2⟩ := hl
        clear hsi hsl
        have P0 := Lib.hid (refPick_is tool 4 ft (by omega))
        have P1 := Lib.hid (refPick_is (tool.tdiv 4) st.length (fits_tdiv ft (by omega)) (by omega))
        have P2 := Lib.hid (refPick_is at_ (ss0 + 50) fa (by omega))
        have P3 := Lib.hid (refPick_is at_ 3 fa (by omega))
        have P4 := Lib.hid (refPick_is (at_.tdiv 3) 50 (fits_tdiv fa (by omega)) (by omega))
        have g1 : IntKind.i64.wrap (tool.tdiv 4) = tool.tdiv 4 := wrap_fits (fits_tdiv ft (by omega))
        have g4 : IntKind.i64.wrap (at_.tdiv 3) = at_.tdiv 3 := wrap_fits (fits_tdiv fa (by omega))
        obtain ⟨a1, a2⟩ := pickZ_bd (c := at_.tdiv 3) (n := 50) (by omega)
        rw [← HI.out] at P1
        clear HI
        generalize pickZ tool 4 = p0 at *
        generalize pickZ at_ (ss0 + 50) = p2 at *
        generalize pickZ at_ 3 = p3 at *
        generalize pickZ (at_.tdiv 3) 50 = p4 at *
        have w1 : IntKind.i64.wrap (ss0 + 50) = ss0 + 50 := IntWalk.i64_in _ (by omega)
        have w2 : IntKind.i64.wrap (ms0 - 20) = ms0 - 20 := IntWalk.i64_in _ (by omega)
        have w3 : IntKind.i64.wrap (ms0 - 20 + p4) = ms0 - 20 + p4 := IntWalk.i64_in _ (by omega)
        have w4 : IntKind.i64.wrap ((st.length : Int) - 1) = ((st.length - 1 : Nat) : Int) := by rw [IntWalk.i64_in _ (by omega)]; omega
        have hM' : max 0 (ms0 - 20 + p4) = max 0 (ms0 - 20 + p4) := rfl
        clear hM'
        obtain ⟨M, hM2⟩ : ∃ M, max 0 (ms0 - 20 + p4) = M := ⟨_, rfl⟩
        rw [hM2] at HAt
        have HMx := Lib.hid hM2
        clear hM2
        have d3 := box_cell HK.out.pb 3 (.slice (some ⟨b, off, none⟩) st.length sc) rfl
        have HX := Lib.hid (fun (v : World) (hv : Below w.heap.size w v) => show v.cell? ⟨b, off + ci * 6 + 2, none⟩ = some (.int .i64 tl0) ∧ v.cell? ⟨b, off + ci * 6 + 3, none⟩ = some (.int .i64 ms0) ∧ v.cell? ⟨b, off + (st.length - 1) * 6 + 5, none⟩ = some (.int .i64 ss0) from ⟨cell_below hv x2, cell_below hv x3, cell_below hv x5⟩)
        clear x2 x3 x5
        generalize Pl.chTool ⟨en, mi, ma, st, wn⟩ tool = TL at *
        generalize Pl.chAt ⟨en, mi, ma, st, wn⟩ tool at_ = AT at *
        have i1 : (0 : Int) ≤ (ci : Int) := by omega
        have i2 : (ci : Int) < (st.length : Int) := by omega
        have i4 : ((ci : Int)).toNat = ci := by omega
        have j1 : (0 : Int) ≤ ((st.length - 1 : Nat) : Int) := by omega
        have j2 : ((st.length - 1 : Nat) : Int) < (st.length : Int) := by omega
        have j4 : (((st.length - 1 : Nat) : Int)).toNat = st.length - 1 := by omega
        have j5 : st.length - 1 < st.length := by omega
        go_wp2_with fail
        refine (P0.out _).mono ?_; rintro e wk1 ⟨rfl, rfl⟩
        go_upto_if 99 with (fail)
        go_cut [] (fun wx => Hid (ChM w ⟨⟨en, mi, ma, st, wn⟩, some ⟨b, off, none⟩, sc, wa, wc⟩ ⟨⟨du, mv, de, TL, AT⟩, da, dc, mb, mc⟩ wx))
        case first =>
          by_cases hp : p0 > 0
          · have HT2 := HT.out
            have HAt2 := HAt.out
            rw [if_pos hp] at HT2 HAt2
            subst HT2
            replace HAt2 := Lib.hid HAt2
            clear HT HAt
            go_upto_region 14 with ((go_at_call 61; (with_reducible refine (P1.out _).mono ?_); rintro _ wv ⟨rfl, rfl⟩))
            have x2 := (HX.out _ HK.out.bel).1
            have s3 := box_cell HK.out.sb 3 (.int .i64 (-1)) rfl
            have z3 := box_fz HK.out.sb 3
            have hlt := lt_of_block HK.out.sb
            go_upto_region 15 with (fail)
            have HK2 := Lib.hid (HK.out.num (o := 3) (u := TL) (de' := de) (tl' := TL) (at' := 0) rfl)
            clear x2 s3 z3 hlt d3 HK
            generalize World.setCell _ ⟨w.heap.size + 1 + 1, 3, none⟩ (.int .i64 TL) = wk2 at *
            have d3 := box_cell HK2.out.pb 3 (.slice (some ⟨b, off, none⟩) st.length sc) rfl
            have x5 := (HX.out _ HK2.out.bel).2.2
            have s4 := box_cell HK2.out.sb 4 (.int .i64 0) rfl
            have z4 := box_fz HK2.out.sb 4
            have hlt := lt_of_block HK2.out.sb
            go_upto_region 16 with ((go_at_call 61; (with_reducible refine (P2.out _).mono ?_); rintro _ wv ⟨rfl, rfl⟩))
            have HK3 := Lib.hid (HK2.out.num (o := 4) (u := p2) (de' := de) (tl' := TL) (at' := p2) rfl)
            clear x5 s4 z4 hlt d3 HK2
            generalize World.setCell _ ⟨w.heap.size + 1 + 1, 4, none⟩ (.int .i64 p2) = wk3 at *
            go_upto_if 130 with ((go_at_call 61; (with_reducible refine (P3.out _).mono ?_); rintro _ wv ⟨rfl, rfl⟩))
            by_cases hp3 : p3 > 0
            · have HA3 := HAt2.out
              rw [if_pos hp3] at HA3
              subst HA3
              clear HAt2
              have hM' : max 0 (ms0 - 20 + p4) = AT := HMx.out
              have d3 := box_cell HK3.out.pb 3 (.slice (some ⟨b, off, none⟩) st.length sc) rfl
              have x3 := (HX.out _ HK3.out.bel).2.1
              have s4 := box_cell HK3.out.sb 4 (.int .i64 p2) rfl
              have z4 := box_fz HK3.out.sb 4
              have hlt := lt_of_block HK3.out.sb
              go_upto_region 17 with (fail)
              go_still_tail 14, (by kernel_rfl)
              repeat still_step
              still_call (P4.out _)
              repeat still_step
              refine wpStill_nil ?_
              change wpList _ _ _ _ _ (World.drew _)
              go_wp2_with fail
              have M3 := Lib.hid (HK3.out.below (Below.refl _ _).drew)
              have M4 := Lib.hid (M3.out.num (o := 4) (u := AT) (de' := de) (tl' := TL) (at' := AT) rfl)
              go_meet
              exact M4
            · have HA3 := HAt2.out
              rw [if_neg hp3] at HA3
              subst HA3
              go_wp2_with fail
              go_meet
              exact HK3
          · have HT2 := HT.out
            have HAt2 := HAt.out
            rw [if_neg hp] at HT2 HAt2
            subst HT2 HAt2
            go_wp2_with fail
            go_meet
            exact HK
        case rest =>
          have HI := Lib.hid hcut.out
          clear hcut HK d3 HX HT HAt P0 P1 P2 P3 P4
          rename World => wi
          have f0 := box_cell HI.out.sb 0 (.slice da du.length dc) rfl
          have f1 := box_cell HI.out.sb 1 (.slice mb mv.length mc) rfl
          have f2 := box_cell HI.out.sb 2 (.int .i64 de) rfl
          have f3 := box_cell HI.out.sb 3 (.int .i64 TL) rfl
          have f4 := box_cell HI.out.sb 4 (.int .i64 AT) rfl
          have r0 := box_cell HI.out.rb 0 (.slice none 0 0) rfl
          have r1 := box_cell HI.out.rb 1 (.slice none 0 0) rfl
          have r2 := box_cell HI.out.rb 2 (.int .i64 0) rfl
          have r3 := box_cell HI.out.rb 3 (.int .i64 0) rfl
          have r4 := box_cell HI.out.rb 4 (.int .i64 0) rfl
          have z0 := box_fz HI.out.rb 0
          have z1 := box_fz HI.out.rb 1
          have z2 := box_fz HI.out.rb 2
          have z3 := box_fz HI.out.rb 3
          have z4 := box_fz HI.out.rb 4
          have hlt := lt_of_block HI.out.rb
          obtain ⟨FE, FB⟩ := HI.out.done
          have HAp := HI.out.apart
          have HAp := Lib.hid HAp
          have FE := Lib.hid FE
          have FB := Lib.hid FB
          go_wp2_with fail
          clear f0 f1 f2 f3 f4 r0 r1 r2 r3 r4 z0 z1 z2 z3 z4 hlt
          generalize ((((wi.setCell ⟨w.heap.size + 1, 0, none⟩ (.slice da du.length dc)).setCell ⟨w.heap.size + 1, 1, none⟩ (.slice mb mv.length mc)).setCell ⟨w.heap.size + 1, 2, none⟩ (.int .i64 de)).setCell ⟨w.heap.size + 1, 3, none⟩ (.int .i64 TL)).setCell ⟨w.heap.size + 1, 4, none⟩ (.int .i64 AT) = we at *
          have r0 := box_cell FB.out 0 (.slice da du.length dc) rfl
          have r1 := box_cell FB.out 1 (.slice mb mv.length mc) rfl
          have r2 := box_cell FB.out 2 (.int .i64 de) rfl
          have r3 := box_cell FB.out 3 (.int .i64 TL) rfl
          have r4 := box_cell FB.out 4 (.int .i64 AT) rfl
          refine bodyPost_ret (v := ScenP.val ⟨⟨du, mv, de, TL, AT⟩, da, dc, mb, mc⟩) (by simp [results, Try.results36, go_sem, r0, r1, r2, r3, r4]) rfl ?_
          show ChPost ⟨en, mi, ma, st, wn⟩ Y tool at_ w _ _
          unfold ChPost
          rw [HCh.out]
          exact ⟨da, dc, mb, mc, rfl, FE.out.1, FE.out.2.1, FE.out.2.2, HAp.out⟩
end Go.Proofs.Ytjdhjlhcdpekbaa.Pe
