/-
  The contract of the reference's Made.
-/
import Derived.Test.YtjdhjlhcdpekbaaQpBc
import Derived.StillTailTactics
import Derived.Deep.RegionHeld3
import Derived.BigRegion
import Derived.WalkMore
import Derived.Deep.LoopGhost
import Derived.Deep.DeepCutAuto
namespace Go.Proofs.Ytjdhjlhcdpekbaa.Pe
open Go.RowKit

abbrev six (y : List Int) : Array Value := #[.int .i64 (Pl.gI y 0), .int .i64 (Pl.gI y 1), .int .i64 (Pl.gI y 2), .int .i64 (Pl.gI y 3), .int .i64 (Pl.gI y 4), .int .i64 (Pl.gI y 5)]
theorem ArrsA.six {w : World} {a : Option Addr} {c : Nat} {X : List (List Int)} (h : ArrsA 6 w a c X) {i : Nat} (hi : i < X.length) : ∃ b off : Nat, a = some ⟨b, off, none⟩ ∧ b < w.heap.size ∧
    (w.cell? ⟨b, off + i * 6, none⟩ = some (.int .i64 (Pl.gI (X.getD i []) 0)) ∧ w.cell? ⟨b, off + i * 6 + 1, none⟩ = some (.int .i64 (Pl.gI (X.getD i []) 1)) ∧ w.cell? ⟨b, off + i * 6 + 2, none⟩ = some (.int .i64 (Pl.gI (X.getD i []) 2)) ∧
      w.cell? ⟨b, off + i * 6 + 3, none⟩ = some (.int .i64 (Pl.gI (X.getD i []) 3)) ∧ w.cell? ⟨b, off + i * 6 + 4, none⟩ = some (.int .i64 (Pl.gI (X.getD i []) 4)) ∧ w.cell? ⟨b, off + i * 6 + 5, none⟩ = some (.int .i64 (Pl.gI (X.getD i []) 5))) ∧
    (∀ j, Fits (Pl.gI (X.getD i []) j)) := by
  obtain ⟨b, off, rfl, hb, hc⟩ := h.2.2.2 i hi
  obtain ⟨hl, hf⟩ := h.2.2.1 X[i] (List.getElem_mem hi)
  have e : X.getD i [] = X[i] := by rw [List.getD_eq_getElem?_getD, List.getElem?_eq_getElem hi]; rfl
  rw [e]
  generalize X[i] = y at *
  obtain ⟨y0, y1, y2, y3, y4, y5, rfl⟩ := six_list hl
  refine ⟨b, off, rfl, hb, ⟨hc 0 _ rfl, hc 1 _ rfl, hc 2 _ rfl, hc 3 _ rfl, hc 4 _ rfl, hc 5 _ rfl⟩, fun j => ?_⟩
  by_cases hj : j < 6
  · have : j = 0 ∨ j = 1 ∨ j = 2 ∨ j = 3 ∨ j = 4 ∨ j = 5 := by omega
    rcases this with rfl | rfl | rfl | rfl | rfl | rfl <;> exact hf _ (by simp [Pl.gI])
  · have : Pl.gI [y0, y1, y2, y3, y4, y5] j = 0 := by
      unfold Pl.gI; rw [List.getD_eq_getElem?_getD, List.getElem?_eq_none (by simp; omega)]; rfl
    rw [this]; exact ⟨by decide, by decide⟩
abbrev stageArr (x : Pl.Stage) : Array Value := #[.int .i64 x.mn, .int .i64 x.mx, .int .i64 x.m.tool, .int .i64 x.m.start, .int .i64 x.s.tool, .int .i64 x.s.start]
theorem info_stage : (Try.prog.info? 108).map (fun i => (i.zero, i.size, i.bytes)) = some (some (.agg #[.int .i64 0, .int .i64 0, .int .i64 0, .int .i64 0, .int .i64 0, .int .i64 0]), 6, 48) := by kernel_rfl
theorem info_window : (Try.prog.info? 110).map (fun i => (i.zero, i.size, i.bytes)) = some (some (.agg #[.int .i64 0, .int .i64 0, .int .i64 0]), 3, 24) := by kernel_rfl
theorem fil_y {w0 : World} {q : PlanP} {S Y : Nat} {cs ds : Array Value} {w : World} (h : Fil w0 q S cs 108 w) (hy : w.heap[Y]? = some (.cells ds 104)) (o : Nat) (u : Value) : (w.setCell ⟨S, o, none⟩ u).heap[Y]? = some (.cells ds 104) :=
  (Below.heap_setCell _ _ _ _ (ne_of_kind hy h.box (by decide))).trans hy
theorem fil_yd {w0 : World} {q : PlanP} {S Y : Nat} {cs ds : Array Value} {w : World} (h : Fil w0 q S cs 108 w) (hy : w.heap[Y]? = some (.cells ds 104)) (o : Nat) (u : Value) : (w.setCell ⟨S, o, none⟩ u).drew.heap[Y]? = some (.cells ds 104) :=
  fil_y h hy o u
theorem fits_half {c : Int} (h : Fits c) (k : Nat) : Fits (c / 2 ^ k) := by
  obtain ⟨h1, h2⟩ := h
  have hp : (0 : Int) < 2 ^ k := Int.pow_pos (by decide)
  rcases Int.le_total 0 c with h0 | h0
  · have := Int.ediv_nonneg h0 (Int.le_of_lt hp)
    have := Int.ediv_le_self (2 ^ k) h0
    constructor <;> omega
  · have h3 : c / 2 ^ k ≤ 0 := by have := Int.ediv_le_ediv hp h0; simpa using this
    have h4 : c ≤ c / 2 ^ k := by
      rw [Int.le_ediv_iff_mul_le hp]
      have := Int.mul_le_mul_of_nonpos_left h0 (show (1 : Int) ≤ 2 ^ k by omega)
      omega
    constructor <;> omega
theorem st_getD2 {w : World} {a : Option Addr} {c : Nat} {L : List Pl.Stage} (h : StA w a c L) {i : Nat} (hi : i < L.length) : ∃ b off : Nat, a = some ⟨b, off, none⟩ ∧ b < w.heap.size ∧
    w.cell? ⟨b, off + i * 6, none⟩ = some (.int .i64 (L.getD i Pl.stage0).mn) ∧ w.cell? ⟨b, off + i * 6 + 1, none⟩ = some (.int .i64 (L.getD i Pl.stage0).mx) ∧ w.cell? ⟨b, off + i * 6 + 2, none⟩ = some (.int .i64 (L.getD i Pl.stage0).m.tool) ∧ w.cell? ⟨b, off + i * 6 + 3, none⟩ = some (.int .i64 (L.getD i Pl.stage0).m.start) ∧
    w.cell? ⟨b, off + i * 6 + 4, none⟩ = some (.int .i64 (L.getD i Pl.stage0).s.tool) ∧ w.cell? ⟨b, off + i * 6 + 5, none⟩ = some (.int .i64 (L.getD i Pl.stage0).s.start) := by
  obtain ⟨b, off, rfl, hb, hc⟩ := h.2.2 i hi
  have e : L.getD i Pl.stage0 = L[i] := by rw [List.getD_eq_getElem?_getD, List.getElem?_eq_getElem hi]; rfl
  rw [e]
  exact ⟨b, off, rfl, hb, st_cells hc⟩
/-- What Made answers. -/
def MadePost (X : List (List Int)) (w : World) (e : Ending) (w' : World) : Prop := ∃ sa sc wa wc, e = .returned (PlanP.val ⟨Pl.made X, sa, sc, wa, wc⟩) ∧ StO w' w.heap.size (.slice sa (Pl.made X).st.length sc) (Pl.made X).st ∧ WnO w' w.heap.size (.slice wa (Pl.made X).wn.length wc) (Pl.made X).wn ∧ Below w.heap.size w w'
set_option maxRecDepth 100000 in
set_option maxHeartbeats 4000000 in
theorem Made_any (X : List (List Int)) (xa : Option Addr) (xc : Nat) (w : World) (hX : ArrsA 6 w xa xc X) : Calls Try.prog 35 #[.slice xa X.length xc] w (MadePost X w) := by
  have lx : X.length ≤ maxLen := Nat.le_trans hX.1 hX.2.1
  unfold maxLen at lx
  have HX := Lib.hid hX; clear hX
  obtain ⟨n, hn⟩ : ∃ n : Nat, Pl.mkN X = n := ⟨_, rfl⟩
  have hnb := Pl.mkN_bd X
  rw [hn] at hnb
  obtain ⟨hn1, hn5⟩ := hnb
  obtain ⟨N5, hN5⟩ : ∃ N5 : Int, (if (5 : Int) < (X.length : Int) then 5 else (X.length : Int)) = N5 := ⟨_, rfl⟩
  have hm' : (if (1 : Int) < N5 then N5 else 1) = (n : Int) := by have := hn; unfold Pl.mkN at this; rw [← hN5]; (repeat' split) <;> omega
  have HN := Lib.hid hn; clear hn
  have M0 : Hid (MkM w ⟨⟨100, 2, 6, [], []⟩, none, 0, none, 0⟩ ((w.alloc zeroPlan).alloc (planObj ⟨⟨100, 2, 6, [], []⟩, none, 0, none, 0⟩))) := Lib.hid ⟨box_below (heap_alloc_new _ _) (below_new _ _), by
    have := heap_alloc_new (w.alloc zeroPlan) (planObj ⟨⟨100, 2, 6, [], []⟩, none, 0, none, 0⟩)
    rw [show (w.alloc zeroPlan).heap.size = w.heap.size + 1 by simp] at this; exact this, RowO.nil _ _ _ _ _, RowO.nil _ _ _ _ _, below_step (below_new _ _) (below_new _ _)⟩
  dsimp only [zeroPlan, planObj, List.length_nil] at M0
  go_enter Try.func35, Try.ntmps35
  go_upto_if 16 with (fail)
  generalize (w.alloc (.cells #[.int .i64 0, .int .i64 0, .int .i64 0, .slice none 0 0, .slice none 0 0] 64)).alloc (.cells #[.int .i64 100, .int .i64 2, .int .i64 6, .slice none 0 0, .slice none 0 0] 64) = wa at *
  go_cut [2] (fun s2 wx => s2 = .pointer (some ⟨w.heap.size, 0, none⟩) ∧ Hid (MkM w ⟨⟨Pl.mkEntry X, Pl.mkMin X, Pl.mkMax X, [], []⟩, none, 0, none, 0⟩ wx))
  case first => as_aux_lemma =>
    by_cases h0 : 0 < X.length
    · obtain ⟨b, off, rfl, hb, ⟨c0, c1, c2, c3, c4, c5⟩, hf⟩ := HX.out.six h0
      have c4 := cell_below M0.out.bel c4
      have c5 := cell_below M0.out.bel c5
      have E1 := Lib.hid (show Pl.mkEntry X = pickZ (Pl.gI (X.getD 0 []) 5) 50 by unfold Pl.mkEntry; rw [if_pos h0])
      have E2 := Lib.hid (show Pl.mkMin X = pickZ (Pl.gI (X.getD 0 []) 4) 5 by unfold Pl.mkMin; rw [if_pos h0])
      have E3 := Lib.hid (show Pl.mkMax X = pickZ (Pl.gI (X.getD 0 []) 4) 5 + pickZ ((Pl.gI (X.getD 0 []) 4).tdiv 5) 8 by unfold Pl.mkMax; rw [if_pos h0])
      have hy4 := hf 4
      have hy5 := hf 5
      generalize Pl.gI (X.getD 0 []) 5 = y5 at *
      generalize Pl.gI (X.getD 0 []) 4 = y4 at *
      have hb' : b ≠ w.heap.size + 1 := by omega
      clear c0 c1 c2 c3 hf
      rw [Nat.zero_mul, Nat.add_zero] at c4 c5
      have P0 := Lib.hid (refPick_is y5 50 hy5 (by omega))
      have P1 := Lib.hid (refPick_is y4 5 hy4 (by omega))
      have P2 := Lib.hid (refPick_is (y4.tdiv 5) 8 (fits_tdiv hy4 (by omega)) (by omega))
      have g2 : IntKind.i64.wrap (y4.tdiv 5) = y4.tdiv 5 := wrap_fits (fits_tdiv hy4 (by omega))
      have q1 := pickZ_bd (c := y4) (n := 5) (by omega)
      have q2 := pickZ_bd (c := y4.tdiv 5) (n := 8) (by omega)
      generalize pickZ y5 50 = p0 at *
      generalize pickZ y4 5 = p1 at *
      generalize pickZ (y4.tdiv 5) 8 = p2 at *
      have e2 : IntKind.i64.wrap (p1 + p2) = p1 + p2 := IntWalk.i64_in _ (by omega)
      clear q1 q2 hy4 hy5
      have d0 := box_cell M0.out.pb 0 (.int .i64 100) rfl
      have z0 := box_fz M0.out.pb 0
      have hlt := lt_of_block M0.out.pb
      go_wp2_with fail
      refine (P0.out _).mono ?_; rintro e wd ⟨rfl, rfl⟩
      go_upto_region 4 with (fail)
      have M1 := Lib.hid (M0.out.num (o := 0) (u := p0) (en' := p0) (mi' := 2) (ma' := 6) rfl)
      have c4 : (wd.setCell ⟨w.heap.size + 1, 0, none⟩ (.int .i64 p0)).cell? ⟨b, off + 4, none⟩ = some (.int .i64 y4) := (World.cell?_of_block (a := ⟨b, off + 4, none⟩) (Below.heap_setCell _ _ _ _ hb')).trans c4
      clear d0 z0 hlt c5 M0
      generalize wd.setCell ⟨w.heap.size + 1, 0, none⟩ (.int .i64 p0) = we at *
      have d1 := box_cell M1.out.pb 1 (.int .i64 2) rfl
      have z1 := box_fz M1.out.pb 1
      have hlt := lt_of_block M1.out.pb
      go_wp2_with fail
      refine (P1.out _).mono ?_; rintro e wg ⟨rfl, rfl⟩
      go_upto_region 5 with (fail)
      have M2 := Lib.hid (M1.out.num (o := 1) (u := p1) (en' := p0) (mi' := p1) (ma' := 6) rfl)
      have c4 : (wg.setCell ⟨w.heap.size + 1, 1, none⟩ (.int .i64 p1)).cell? ⟨b, off + 4, none⟩ = some (.int .i64 y4) := (World.cell?_of_block (a := ⟨b, off + 4, none⟩) (Below.heap_setCell _ _ _ _ hb')).trans c4
      clear d1 z1 hlt M1
      generalize wg.setCell ⟨w.heap.size + 1, 1, none⟩ (.int .i64 p1) = wh at *
      have d1 := box_cell M2.out.pb 1 (.int .i64 p1) rfl
      have d2 := box_cell M2.out.pb 2 (.int .i64 6) rfl
      have z2 := box_fz M2.out.pb 2
      have hlt := lt_of_block M2.out.pb
      go_still_tail 10, (by kernel_rfl)
      repeat still_step
      still_call (P2.out _)
      repeat still_step
      refine wpStill_nil ?_
      change wpList _ _ _ _ _ wh.drew
      go_wp2_with fail
      have M3 := Lib.hid (M2.out.below (Below.refl _ _).drew)
      have M4 := Lib.hid (M3.out.num (o := 2) (u := p1 + p2) (en' := p0) (mi' := p1) (ma' := p1 + p2) rfl)
      go_meet
      exact ⟨rfl, Lib.hid (by rw [E1.out, E2.out, E3.out]; exact M4.out)⟩
    · have E1 := Lib.hid (show Pl.mkEntry X = 100 by unfold Pl.mkEntry; rw [if_neg h0])
      have E2 := Lib.hid (show Pl.mkMin X = 2 by unfold Pl.mkMin; rw [if_neg h0])
      have E3 := Lib.hid (show Pl.mkMax X = 6 by unfold Pl.mkMax; rw [if_neg h0])
      have k0 : ¬ (0 : Int) < (X.length : Int) := by omega
      go_wp2_with fail
      go_meet
      exact ⟨rfl, Lib.hid (by rw [E1.out, E2.out, E3.out]; exact M0.out)⟩
  case rest =>
    obtain ⟨rfl, HM⟩ := hcut
    have hbd := Pl.mkMax_bd X
    generalize hEn : Pl.mkEntry X = en at *
    generalize hMi : Pl.mkMin X = mi at *
    generalize hMa : Pl.mkMax X = ma at *
    obtain ⟨hb1, hb2, hb3, hb4, hb5⟩ := hbd
    have hma : 0 ≤ ma ∧ ma ≤ 11 := ⟨by omega, hb3⟩
    have HEn := Lib.hid hEn; have HMi := Lib.hid hMi; have HMa := Lib.hid hMa
    clear hEn hMi hMa M0
    have d0 := box_cell HM.out.pb 0 (.int .i64 en) rfl
    go_wp2_with fail
    clear d0
    go_loopg [4, 5, 6] n (fun g tv lv iv wr => ∃ (k : Nat) (sa : Option Addr) (sc : Nat), k ≤ n ∧ g = n - k ∧ tv = .int .i64 (Pl.stagesTo X ma en k).t ∧ lv = .int .i64 (Pl.stagesTo X ma en k).late ∧ iv = .int .i64 (k : Int) ∧ Hid (MkM w ⟨⟨en, mi, ma, (Pl.stagesTo X ma en k).l, []⟩, sa, sc, none, 0⟩ wr))
    case atStart => exact ⟨0, none, 0, by omega, by omega, rfl, rfl, rfl, HM⟩
    case round =>
      obtain ⟨k, sa, sc, hk, rfl, rfl, rfl, rfl, HK⟩ := hrel
      have HB := Lib.hid (Pl.stages_small (X := X) (a := ma) (e := en) hma ⟨hb4, hb5⟩ k (by rw [HN.out]; exact hk))
      have HL := Lib.hid (Pl.stagesTo_len X ma en k)
      have HSS : Hid (Pl.stagesTo X ma en (k + 1) = ⟨(Pl.stagesTo X ma en k).l ++ [Pl.stageAt ma (Pl.stagesTo X ma en k).t (Pl.stagesTo X ma en k).late X k], (Pl.stageAt ma (Pl.stagesTo X ma en k).t (Pl.stagesTo X ma en k).late X k).m.start + (Pl.stageAt ma (Pl.stagesTo X ma en k).t (Pl.stagesTo X ma en k).late X k).mx, max (Pl.stageAt ma (Pl.stagesTo X ma en k).t (Pl.stagesTo X ma en k).late X k).m.start (Pl.stageAt ma (Pl.stagesTo X ma en k).t (Pl.stagesTo X ma en k).late X k).s.start + (Pl.stageAt ma (Pl.stagesTo X ma en k).t (Pl.stagesTo X ma en k).late X k).mx⟩) := Lib.hid rfl
      by_cases hlt : k < n
      · have HSm := Lib.hid (Pl.stage_small (X := X) (i := k) (a := ma) (t := (Pl.stagesTo X ma en k).t) (late := (Pl.stagesTo X ma en k).late) hma HB.out.2.1 (.inl HB.out.2.2.1) (by have := HN.out; unfold Pl.mkN at this; omega) HB.out.2.2.2)
        have HBt := Lib.hid (show 0 ≤ (Pl.stagesTo X ma en k).t ∧ (Pl.stagesTo X ma en k).t ≤ 1000 ∧ 0 ≤ (Pl.stagesTo X ma en k).late ∧ (Pl.stagesTo X ma en k).late ≤ 1000 by have := HB.out.2; omega)
        clear HB
        generalize (Pl.stagesTo X ma en k).t = t at *
        generalize (Pl.stagesTo X ma en k).late = lt at *
        generalize (Pl.stagesTo X ma en k).l = sl at *
        obtain ⟨bt1, bt2, bl1, bl2⟩ := HBt.out
        have e1 : IntKind.i64.wrap (t + 10) = t + 10 := IntWalk.i64_in _ (by omega)
        have e2 : IntKind.i64.wrap ((k : Int) + 1) = (k : Int) + 1 := IntWalk.i64_in _ (by omega)
        have e3 : IntKind.i64.wrap (t + 40) = t + 40 := IntWalk.i64_in _ (by omega)
        go_upto_if 64 with (fail)
        have HF0 := Lib.hid (Fil.new HK.out #[.int .i64 10, .int .i64 10, .int .i64 (k : Int), .int .i64 (t + 10), .int .i64 ((k : Int) + 1), .int .i64 (t + 40)] 108)
        have HG0 := Lib.hid (below_new wr (.cells #[.int .i64 10, .int .i64 10, .int .i64 (k : Int), .int .i64 (t + 10), .int .i64 ((k : Int) + 1), .int .i64 (t + 40)] 108))
        generalize wr.alloc (.cells #[.int .i64 10, .int .i64 10, .int .i64 (k : Int), .int .i64 (t + 10), .int .i64 ((k : Int) + 1), .int .i64 (t + 40)] 108) = ws at *
        generalize wr.heap.size = S at *
        clear e1 e2 e3
        go_cut [7] (fun s7 wx => s7 = .pointer (some ⟨S, 0, none⟩) ∧ Hid (Fil w ⟨⟨en, mi, ma, sl, []⟩, sa, sc, none, 0⟩ S (stageArr (Pl.stageAt ma t lt X k)) 108 wx))
        case first => as_aux_lemma =>
          clear hm' hN5
          by_cases hkX : k < X.length
          · obtain ⟨b, off, rfl, hb, ⟨c0, c1, c2, c3, c4, c5⟩, hf⟩ := HX.out.six hkX
            have hsb := HF0.out.m.bel
            have c0 := cell_below hsb c0
            have c1 := cell_below hsb c1
            have c2 := cell_below hsb c2
            have c3 := cell_below hsb c3
            have c4 := cell_below hsb c4
            have c5 := cell_below hsb c5
            have EX := Lib.hid (show Pl.stageAt ma t lt X k = Pl.stageOf ma t lt (X.getD k []) by unfold Pl.stageAt; rw [if_pos hkX])
            rw [EX.out] at HSm
            have f0 := hf 0; have f1 := hf 1; have f2 := hf 2; have f3 := hf 3
            dsimp only [Pl.stageOf, Pl.stMn, Pl.stMx, Pl.stMt, Pl.stSt, Pl.mainStart, Pl.spareStart] at EX
            generalize Pl.gI (X.getD k []) 0 = y0 at *
            generalize Pl.gI (X.getD k []) 1 = y1 at *
            generalize Pl.gI (X.getD k []) 2 = y2 at *
            generalize Pl.gI (X.getD k []) 3 = y3 at *
            generalize Pl.gI (X.getD k []) 4 = y4 at *
            generalize Pl.gI (X.getD k []) 5 = y5 at *
            go_upto_region 14 with (fail)
            have HF := Lib.hid (show _ ∧ _ from ⟨HF0.out.below (below_new ws (.cells #[.int .i64 y0, .int .i64 y1, .int .i64 y2, .int .i64 y3, .int .i64 y4, .int .i64 y5] 104)), heap_alloc_new ws (.cells #[.int .i64 y0, .int .i64 y1, .int .i64 y2, .int .i64 y3, .int .i64 y4, .int .i64 y5] 104)⟩)
            clear c0 c1 c2 c3 c4 c5 hsb hf HF0 HG0
            generalize ws.alloc (.cells #[.int .i64 y0, .int .i64 y1, .int .i64 y2, .int .i64 y3, .int .i64 y4, .int .i64 y5] 104) = wy at *
            generalize ws.heap.size = Y at *
            have P0 := Lib.hid (refPick_is y0 20 f0 (by omega))
            obtain ⟨lP0, uP0⟩ := pickZ_bd (c := y0) (n := 20) (by omega)
            generalize pickZ (y0) 20 = p0 at *
            have P1 := Lib.hid (refPick_is (y0.tdiv 20) 12 (fits_tdiv f0 (by omega)) (by omega))
            have gP1 : IntKind.i64.wrap (y0.tdiv 20) = y0.tdiv 20 := wrap_fits (fits_tdiv f0 (by omega))
            obtain ⟨lP1, uP1⟩ := pickZ_bd (c := y0.tdiv 20) (n := 12) (by omega)
            generalize pickZ (y0.tdiv 20) 12 = p1 at *
            have P2 := Lib.hid (refPick_is y1 6 f1 (by omega))
            obtain ⟨lP2, uP2⟩ := pickZ_bd (c := y1) (n := 6) (by omega)
            generalize pickZ (y1) 6 = p2 at *
            have P3 := Lib.hid (refPick_is (y1.tdiv 6) 5 (fits_tdiv f1 (by omega)) (by omega))
            have gP3 : IntKind.i64.wrap (y1.tdiv 6) = y1.tdiv 6 := wrap_fits (fits_tdiv f1 (by omega))
            obtain ⟨lP3, uP3⟩ := pickZ_bd (c := y1.tdiv 6) (n := 5) (by omega)
            generalize pickZ (y1.tdiv 6) 5 = p3 at *
            have P4 := Lib.hid (refPick_is y2 12 f2 (by omega))
            obtain ⟨lP4, uP4⟩ := pickZ_bd (c := y2) (n := 12) (by omega)
            generalize pickZ (y2) 12 = p4 at *
            have P5 := Lib.hid (refPick_is (y2.tdiv 12) 4 (fits_tdiv f2 (by omega)) (by omega))
            have gP5 : IntKind.i64.wrap (y2.tdiv 12) = y2.tdiv 12 := wrap_fits (fits_tdiv f2 (by omega))
            obtain ⟨lP5, uP5⟩ := pickZ_bd (c := y2.tdiv 12) (n := 4) (by omega)
            generalize pickZ (y2.tdiv 12) 4 = p5 at *
            have P6 := Lib.hid (refPick_is (y2.tdiv 48) 3 (fits_tdiv f2 (by omega)) (by omega))
            have gP6 : IntKind.i64.wrap (y2.tdiv 48) = y2.tdiv 48 := wrap_fits (fits_tdiv f2 (by omega))
            obtain ⟨lP6, uP6⟩ := pickZ_bd (c := y2.tdiv 48) (n := 3) (by omega)
            generalize pickZ (y2.tdiv 48) 3 = p6 at *
            have P7 := Lib.hid (refPick_is y3 3 f3 (by omega))
            obtain ⟨lP7, uP7⟩ := pickZ_bd (c := y3) (n := 3) (by omega)
            generalize pickZ (y3) 3 = p7 at *
            have P8 := Lib.hid (refPick_is (y3.tdiv 3) 15 (fits_tdiv f3 (by omega)) (by omega))
            have gP8 : IntKind.i64.wrap (y3.tdiv 3) = y3.tdiv 3 := wrap_fits (fits_tdiv f3 (by omega))
            obtain ⟨lP8, uP8⟩ := pickZ_bd (c := y3.tdiv 3) (n := 15) (by omega)
            generalize pickZ (y3.tdiv 3) 15 = p8 at *
            have P9 := Lib.hid (refPick_is (y3.tdiv 45) 5 (fits_tdiv f3 (by omega)) (by omega))
            have gP9 : IntKind.i64.wrap (y3.tdiv 45) = y3.tdiv 45 := wrap_fits (fits_tdiv f3 (by omega))
            obtain ⟨lP9, uP9⟩ := pickZ_bd (c := y3.tdiv 45) (n := 5) (by omega)
            generalize pickZ (y3.tdiv 45) 5 = p9 at *
            have PA := Lib.hid (refPick_is (y3.tdiv 225) 6 (fits_tdiv f3 (by omega)) (by omega))
            have gPA : IntKind.i64.wrap (y3.tdiv 225) = y3.tdiv 225 := wrap_fits (fits_tdiv f3 (by omega))
            obtain ⟨lPA, uPA⟩ := pickZ_bd (c := y3.tdiv 225) (n := 6) (by omega)
            generalize pickZ (y3.tdiv 225) 6 = pa at *
            clear f0 f1 f2 f3
            have hmul : 0 ≤ p7 * ma ∧ p7 * ma ≤ 22 := by
              refine ⟨Int.mul_nonneg lP7 hma.1, ?_⟩
              have := Int.mul_le_mul (show p7 ≤ 2 by omega) hma.2 hma.1 (by omega)
              omega
            obtain ⟨hm1, hm2⟩ := hmul
            have w0 : IntKind.i64.wrap (1 + p0) = 1 + p0 := IntWalk.i64_in _ (by omega)
            have w1 : IntKind.i64.wrap (1 + p0 + p1) = 1 + p0 + p1 := IntWalk.i64_in _ (by omega)
            have w2 : IntKind.i64.wrap (p2 + 1) = p2 + 1 := IntWalk.i64_in _ (by omega)
            have w3 : IntKind.i64.wrap (p2 + 1 + p3) = p2 + 1 + p3 := IntWalk.i64_in _ (by omega)
            have w4 : IntKind.i64.wrap ((p2 + 1 + p3) % 6) = (p2 + 1 + p3) % 6 := IntWalk.i64_in _ (by omega)
            have w4' : 0 ≤ p2 + 1 + p3 := by omega
            have w5 : IntKind.i64.wrap (t + ma) = t + ma := IntWalk.i64_in _ (by omega)
            have w6 : IntKind.i64.wrap (t + ma + p4) = t + ma + p4 := IntWalk.i64_in _ (by omega)
            have w7 : IntKind.i64.wrap (lt + ma) = lt + ma := IntWalk.i64_in _ (by omega)
            have w8 : IntKind.i64.wrap (lt + ma + p6) = lt + ma + p6 := IntWalk.i64_in _ (by omega)
            have w9 : IntKind.i64.wrap (p7 * ma) = p7 * ma := IntWalk.i64_in _ (by omega)
            have c0 := box_cell HF.out.2 0 (.int .i64 y0) rfl
            have s0 := box_cell HF.out.1.box 0 (.int .i64 (10)) rfl
            have z0 := box_fz HF.out.1.box 0
            have hlt := lt_of_block HF.out.1.box
            go_wp2_with fail
            refine (P0.out _).mono ?_; rintro e we ⟨rfl, rfl⟩
            go_upto_region 15 with (fail)
            have HF := Lib.hid (show _ ∧ _ from ⟨HF.out.1.set 0 (.int .i64 (1 + p0)), fil_y HF.out.1 HF.out.2 0 (.int .i64 (1 + p0))⟩)
            clear s0 c0 z0 hlt
            generalize we.setCell ⟨S, 0, none⟩ (.int .i64 (1 + p0)) = wy1 at *
            have s0 := box_cell HF.out.1.box 0 (.int .i64 (1 + p0)) rfl
            have c0 := box_cell HF.out.2 0 (.int .i64 y0) rfl
            have s1 := box_cell HF.out.1.box 1 (.int .i64 (10)) rfl
            have z1 := box_fz HF.out.1.box 1
            have hlt := lt_of_block HF.out.1.box
            go_still_tail 8, (by kernel_rfl)
            repeat still_step
            still_call (P1.out _)
            repeat still_step
            refine wpStill_nil ?_
            change wpList _ _ _ _ _ wy1.drew
            go_upto_region 16 with (fail)
            have HF := Lib.hid (show _ ∧ _ from ⟨(HF.out.1.set 1 (.int .i64 (1 + p0 + p1))).drew, fil_yd HF.out.1 HF.out.2 1 (.int .i64 (1 + p0 + p1))⟩)
            clear s0 s1 c0 z1 hlt
            generalize (wy1.setCell ⟨S, 1, none⟩ (.int .i64 (1 + p0 + p1))).drew = wy2 at *
            have c1 := box_cell HF.out.2 1 (.int .i64 y1) rfl
            have s2 := box_cell HF.out.1.box 2 (.int .i64 ((k : Int))) rfl
            have z2 := box_fz HF.out.1.box 2
            have hlt := lt_of_block HF.out.1.box
            go_wp2_with fail
            refine (P2.out _).mono ?_; rintro e we ⟨rfl, rfl⟩
            go_upto_region 17 with (fail)
            have HF := Lib.hid (show _ ∧ _ from ⟨HF.out.1.set 2 (.int .i64 (p2)), fil_y HF.out.1 HF.out.2 2 (.int .i64 (p2))⟩)
            clear s2 c1 z2 hlt
            generalize we.setCell ⟨S, 2, none⟩ (.int .i64 (p2)) = wy3 at *
            have s2 := box_cell HF.out.1.box 2 (.int .i64 (p2)) rfl
            have c1 := box_cell HF.out.2 1 (.int .i64 y1) rfl
            have s4 := box_cell HF.out.1.box 4 (.int .i64 ((k : Int) + 1)) rfl
            have z4 := box_fz HF.out.1.box 4
            have hlt := lt_of_block HF.out.1.box
            go_still_tail 12, (by kernel_rfl)
            repeat still_step
            still_call (P3.out _)
            repeat still_step
            refine wpStill_nil ?_
            change wpList _ _ _ _ _ wy3.drew
            go_upto_region 18 with (fail)
            have HF := Lib.hid (show _ ∧ _ from ⟨(HF.out.1.set 4 (.int .i64 ((p2 + 1 + p3) % 6))).drew, fil_yd HF.out.1 HF.out.2 4 (.int .i64 ((p2 + 1 + p3) % 6))⟩)
            clear s2 s4 c1 z4 hlt
            generalize (wy3.setCell ⟨S, 4, none⟩ (.int .i64 ((p2 + 1 + p3) % 6))).drew = wy4 at *
            have c2 := box_cell HF.out.2 2 (.int .i64 y2) rfl
            have s3 := box_cell HF.out.1.box 3 (.int .i64 (t + 10)) rfl
            have d2 := box_cell HF.out.1.m.pb 2 (.int .i64 ma) rfl
            have z3 := box_fz HF.out.1.box 3
            have hlt := lt_of_block HF.out.1.box
            go_still_tail 10, (by kernel_rfl)
            repeat still_step
            still_call (P4.out _)
            repeat still_step
            refine wpStill_nil ?_
            change wpList _ _ _ _ _ wy4.drew
            go_upto_region 19 with (fail)
            have HF := Lib.hid (show _ ∧ _ from ⟨(HF.out.1.set 3 (.int .i64 (t + ma + p4))).drew, fil_yd HF.out.1 HF.out.2 3 (.int .i64 (t + ma + p4))⟩)
            clear s3 c2 d2 z3 hlt
            generalize (wy4.setCell ⟨S, 3, none⟩ (.int .i64 (t + ma + p4))).drew = wy5 at *
            have c2 := box_cell HF.out.2 2 (.int .i64 y2) rfl
            go_wp2_with fail
            refine (P5.out _).mono ?_; rintro e we ⟨rfl, rfl⟩
            go_upto_if 113 with (fail)
            clear c2
            go_cut [7, 8] (fun s7 s8 wx => s7 = .pointer (some ⟨S, 0, none⟩) ∧ s8 = .pointer (some ⟨Y, 0, none⟩) ∧ Hid (Fil w ⟨⟨en, mi, ma, sl, []⟩, sa, sc, none, 0⟩ S #[.int .i64 (1 + p0), .int .i64 (1 + p0 + p1), .int .i64 (p2), .int .i64 (if p5 > 0 then lt + ma + p6 else t + ma + p4), .int .i64 ((p2 + 1 + p3) % 6), .int .i64 (t + 40)] 108 wx ∧ wx.heap[Y]? = some (.cells #[.int .i64 y0, .int .i64 y1, .int .i64 y2, .int .i64 y3, .int .i64 y4, .int .i64 y5] 104)))
            case first => as_aux_lemma =>
              by_cases h5 : p5 > 0
              · have HIF := Lib.hid (show (if p5 > 0 then lt + ma + p6 else t + ma + p4) = lt + ma + p6 by rw [if_pos h5])
                go_upto_region 20 with (fail)
                have c2 := box_cell HF.out.2 2 (.int .i64 y2) rfl
                have s3 := box_cell HF.out.1.box 3 (.int .i64 (t + ma + p4)) rfl
                have d2 := box_cell HF.out.1.m.pb 2 (.int .i64 ma) rfl
                have z3 := box_fz HF.out.1.box 3
                have hlt := lt_of_block HF.out.1.box
                go_still_tail 11, (by kernel_rfl)
                repeat still_step
                still_call (P6.out _)
                repeat still_step
                refine wpStill_nil ?_
                change wpList _ _ _ _ _ we.drew
                go_wp2_with fail
                have HF := Lib.hid (show _ ∧ _ from ⟨(HF.out.1.set 3 (.int .i64 (lt + ma + p6))).drew, fil_yd HF.out.1 HF.out.2 3 (.int .i64 (lt + ma + p6))⟩)
                clear s3 c2 d2 z3 hlt
                generalize (we.setCell ⟨S, 3, none⟩ (.int .i64 (lt + ma + p6))).drew = wz at *
                go_meet
                exact ⟨rfl, rfl, Lib.hid (by rw [HIF.out]; exact HF.out)⟩
              · have HIF := Lib.hid (show (if p5 > 0 then lt + ma + p6 else t + ma + p4) = t + ma + p4 by rw [if_neg h5])
                go_wp2_with fail
                go_meet
                exact ⟨rfl, rfl, Lib.hid (by rw [HIF.out]; exact HF.out)⟩
            case rest =>
              obtain ⟨rfl, rfl, HF⟩ := hcut
              rename World => wq
              have hms : 0 ≤ (if p5 > 0 then lt + ma + p6 else t + ma + p4) ∧ (if p5 > 0 then lt + ma + p6 else t + ma + p4) ≤ 2000 := by split <;> omega
              generalize (if p5 > 0 then lt + ma + p6 else t + ma + p4) = ms at *
              obtain ⟨hms1, hms2⟩ := hms
              have v0 : IntKind.i64.wrap (ms + (1 + p0 + p1)) = ms + (1 + p0 + p1) := IntWalk.i64_in _ (by omega)
              have v1 : IntKind.i64.wrap (ms + (1 + p0 + p1) + p7 * ma) = ms + (1 + p0 + p1) + p7 * ma := IntWalk.i64_in _ (by omega)
              have v2 : IntKind.i64.wrap (ms + (1 + p0 + p1) + p7 * ma + p8) = ms + (1 + p0 + p1) + p7 * ma + p8 := IntWalk.i64_in _ (by omega)
              have v3 : IntKind.i64.wrap (ms + pa) = ms + pa := IntWalk.i64_in _ (by omega)
              go_upto_region 21 with (fail)
              have s3 := box_cell HF.out.1.box 3 (.int .i64 (ms)) rfl
              have s1 := box_cell HF.out.1.box 1 (.int .i64 (1 + p0 + p1)) rfl
              have c3 := box_cell HF.out.2 3 (.int .i64 y3) rfl
              have s5 := box_cell HF.out.1.box 5 (.int .i64 (t + 40)) rfl
              have d2 := box_cell HF.out.1.m.pb 2 (.int .i64 ma) rfl
              have z5 := box_fz HF.out.1.box 5
              have hlt := lt_of_block HF.out.1.box
              go_still_tail 20, (by kernel_rfl)
              repeat still_step
              still_call (P7.out _)
              repeat still_step
              still_call (P8.out _)
              repeat still_step
              refine wpStill_nil ?_
              change wpList _ _ _ _ _ wq.drew
              go_upto_region 22 with (fail)
              have HF := Lib.hid (show _ ∧ _ from ⟨(HF.out.1.set 5 (.int .i64 (ms + (1 + p0 + p1) + p7 * ma + p8))).drew, fil_yd HF.out.1 HF.out.2 5 (.int .i64 (ms + (1 + p0 + p1) + p7 * ma + p8))⟩)
              clear s1 s3 s5 c3 d2 z5 hlt
              generalize (wq.setCell ⟨S, 5, none⟩ (.int .i64 (ms + (1 + p0 + p1) + p7 * ma + p8))).drew = wr2 at *
              have c3 := box_cell HF.out.2 3 (.int .i64 y3) rfl
              go_wp2_with fail
              refine (P9.out _).mono ?_; rintro e wf ⟨rfl, rfl⟩
              go_upto_if 149 with (fail)
              clear c3
              go_cut [7, 8] (fun s7 s8 wx => s7 = .pointer (some ⟨S, 0, none⟩) ∧ s8 = .pointer (some ⟨Y, 0, none⟩) ∧ Hid (Fil w ⟨⟨en, mi, ma, sl, []⟩, sa, sc, none, 0⟩ S #[.int .i64 (1 + p0), .int .i64 (1 + p0 + p1), .int .i64 (p2), .int .i64 (ms), .int .i64 ((p2 + 1 + p3) % 6), .int .i64 (if p9 = 0 then ms + pa else ms + (1 + p0 + p1) + p7 * ma + p8)] 108 wx ∧ wx.heap[Y]? = some (.cells #[.int .i64 y0, .int .i64 y1, .int .i64 y2, .int .i64 y3, .int .i64 y4, .int .i64 y5] 104)))
              case first => as_aux_lemma =>
                by_cases h9 : p9 = 0
                · have HIF := Lib.hid (show (if p9 = 0 then ms + pa else ms + (1 + p0 + p1) + p7 * ma + p8) = ms + pa by rw [if_pos h9])
                  have h9' : (p9 == 0) = true := by simp [h9]
                  clear h9
                  go_upto_region 23 with (fail)
                  have s3 := box_cell HF.out.1.box 3 (.int .i64 (ms)) rfl
                  have c3 := box_cell HF.out.2 3 (.int .i64 y3) rfl
                  have s5 := box_cell HF.out.1.box 5 (.int .i64 (ms + (1 + p0 + p1) + p7 * ma + p8)) rfl
                  have z5 := box_fz HF.out.1.box 5
                  have hlt := lt_of_block HF.out.1.box
                  go_still_tail 10, (by kernel_rfl)
                  repeat still_step
                  still_call (PA.out _)
                  repeat still_step
                  refine wpStill_nil ?_
                  change wpList _ _ _ _ _ wf.drew
                  go_wp2_with fail
                  have HF := Lib.hid (show _ ∧ _ from ⟨(HF.out.1.set 5 (.int .i64 (ms + pa))).drew, fil_yd HF.out.1 HF.out.2 5 (.int .i64 (ms + pa))⟩)
                  clear s3 s5 c3 z5 hlt
                  generalize (wf.setCell ⟨S, 5, none⟩ (.int .i64 (ms + pa))).drew = wz at *
                  go_meet
                  exact ⟨rfl, rfl, Lib.hid (by rw [HIF.out]; exact HF.out)⟩
                · have HIF := Lib.hid (show (if p9 = 0 then ms + pa else ms + (1 + p0 + p1) + p7 * ma + p8) = ms + (1 + p0 + p1) + p7 * ma + p8 by rw [if_neg h9])
                  have h9' : (p9 == 0) = false := by simp [h9]
                  clear h9
                  go_wp2_with fail
                  go_meet
                  exact ⟨rfl, rfl, Lib.hid (by rw [HIF.out]; exact HF.out)⟩
              case rest =>
                obtain ⟨rfl, rfl, HF⟩ := hcut
                go_wp2_with fail
                go_meet
                exact ⟨rfl, Lib.hid (by rw [EX.out]; exact HF.out.1)⟩
          · have hk0 : k = 0 := by have := HN.out; unfold Pl.mkN at this; omega
            have EX := Lib.hid (show Pl.stageAt ma t lt X k = ⟨10, 10, ⟨(k : Int), t + 10⟩, ⟨(k : Int) + 1, t + 40⟩⟩ by unfold Pl.stageAt; rw [if_neg hkX])
            clear hk0
            go_wp2_with fail
            go_meet
            exact ⟨rfl, Lib.hid (by rw [EX.out]; exact HF0.out)⟩
        case rest =>
          obtain ⟨rfl, HF⟩ := hcut
          clear hm' hN5
          rename World => wq
          generalize Pl.stageAt ma t lt X k = x at *
          have HXB := Lib.hid (show (0 ≤ x.m.start ∧ x.m.start ≤ 2000) ∧ (0 ≤ x.s.start ∧ x.s.start ≤ 2000) ∧ 0 ≤ x.mx ∧ x.mx ≤ 31 by have h1 := HSm.out.ms; have h2 := HSm.out.ss; have h3 := HSm.out.mn; omega)
          have e1 : IntKind.i64.wrap (x.m.start + x.mx) = x.m.start + x.mx := IntWalk.i64_in _ (by have := HXB.out; omega)
          obtain ⟨M, hM⟩ : ∃ M, max x.m.start x.s.start = M := ⟨_, rfl⟩
          have hM' : (if x.m.start < x.s.start then x.s.start else x.m.start) = M := by rw [← hM]; split <;> omega
          have e2 : IntKind.i64.wrap (M + x.mx) = M + x.mx := IntWalk.i64_in _ (by have := HXB.out; omega)
          rw [hM] at HSS
          clear hM
          have s0 := box_cell HF.out.box 0 (.int .i64 x.mn) rfl
          have s1 := box_cell HF.out.box 1 (.int .i64 x.mx) rfl
          have s2 := box_cell HF.out.box 2 (.int .i64 x.m.tool) rfl
          have s3 := box_cell HF.out.box 3 (.int .i64 x.m.start) rfl
          have s4 := box_cell HF.out.box 4 (.int .i64 x.s.tool) rfl
          have s5 := box_cell HF.out.box 5 (.int .i64 x.s.start) rfl
          have d3 := box_cell HF.out.m.pb 3 (.slice sa sl.length sc) rfl
          have HOwn := Lib.hid (show (wq.alloc (.cells #[.int .i64 x.mn, .int .i64 x.mx, .int .i64 x.m.tool, .int .i64 x.m.start, .int .i64 x.s.tool, .int .i64 x.s.start] 108)).ownsRow w.heap.size 108 6 (.slice sa sl.length sc) sl.length (sl.flatMap stageCells) from own_below HF.out.m.srow (below_new _ _))
          have HNW := Lib.hid (World.news_of_block (w := wq.alloc (.cells #[.int .i64 x.mn, .int .i64 x.mx, .int .i64 x.m.tool, .int .i64 x.m.start, .int .i64 x.s.tool, .int .i64 x.s.start] 108)) (B := wq.heap.size) (cs := #[.int .i64 x.mn, .int .i64 x.mx, .int .i64 x.m.tool, .int .i64 x.m.start, .int .i64 x.s.tool, .int .i64 x.s.start]) (t := 108) (fr := (0, 0)) (heap_alloc_new wq _))
          have hsw := HF.out.m.bel.size
          have hl5 : sl.length ≤ 5 := by have := HL.out; omega
          obtain ⟨i0, hi, hz0, hz1, hz2⟩ := info_parts info_stage
          go_wp2_with (at_builtin; refine wpList_append_own _ rfl _ _ 61 rfl w.heap.size 108 i0 _ 6 48 Try.underlying61 hi hz0 hz1 hz2 rfl (by decide) _ _ _ rfl HOwn.out ⟨wq.heap.size, 0, none⟩ 1 1 [.int .i64 x.mn, .int .i64 x.mx, .int .i64 x.m.tool, .int .i64 x.m.start, .int .i64 x.s.tool, .int .i64 x.s.start] rfl rfl HNW.out ?c2 ?c3 ?c4 ?c5 ?_)
          case c2 => simp [Value.oneCell']
          case c3 => unfold maxLen; omega
          case c4 => omega
          case c5 => omega
          intro v' w3 hown' hgrow _
          obtain ⟨a', c', rfl, -⟩ := own_slice hown'
          obtain ⟨HM3, hp3⟩ := HF.out.m.stage x (below_new _ _) hown' hgrow
          have p3 := box_cell hp3 3 (.slice sa sl.length sc) rfl
          have z3 := box_fz hp3 3
          have hlp := lt_of_block hp3
          have HM3 := Lib.hid HM3
          clear hown' hgrow HOwn HNW s0 s1 s2 s3 s4 s5 d3 hi hz0 hz1 hz2 hp3
          go_wp2_with fail
          go_roundg (n - (k + 1))
          case rel => exact ⟨k + 1, a', c', by omega, rfl, by rw [HSS.out], by rw [HSS.out], by go_num, Lib.hid (by rw [HSS.out]; exact HM3.out)⟩
          case measure => omega
      · obtain rfl : k = n := by omega
        have HSm := Lib.hid (Pl.made_stages X)
        have HMade := Lib.hid (show Pl.made X = ⟨en, mi, ma, (Pl.stagesTo X ma en k).l, Pl.winTo (Pl.stagesTo X ma en k).l X k⟩ by unfold Pl.made; rw [HEn.out, HMi.out, HMa.out, HN.out])
        rw [HMade.out] at HSm
        clear HB HSS hlt
        generalize (Pl.stagesTo X ma en k).l = st at *
        generalize (Pl.stagesTo X ma en k).t = tt at *
        generalize (Pl.stagesTo X ma en k).late = tl at *
        rename World => wk
        have hln := HL.out
        go_upto_region 27 with (fail)
        clear hm' hN5
        have d3 := box_cell HK.out.pb 3 (.slice sa st.length sc) rfl
        go_wp2_with fail
        clear d3
        go_loopg [9] st.length (fun g iv wr => ∃ (i : Nat) (wa : Option Addr) (wc : Nat), i ≤ st.length ∧ g = st.length - i ∧ iv = .int .i64 (i : Int) ∧ Hid (MkM w ⟨⟨en, mi, ma, st, Pl.winTo st X i⟩, sa, sc, wa, wc⟩ wr))
        case atStart => exact ⟨0, none, 0, by omega, by omega, rfl, HK⟩
        case round =>
          obtain ⟨i, wa1, wc1, hi, rfl, rfl, HI⟩ := hrel
          rename World => wi
          have d3 := box_cell HI.out.pb 3 (.slice sa st.length sc) rfl
          by_cases hin : i < st.length
          · have e0 : IntKind.i64.wrap ((i : Int) + 1) = (i : Int) + 1 := IntWalk.i64_in _ (by omega)
            have hd1 : decide (i < k) = true := decide_eq_true (by omega)
            have hd2 : decide (i < st.length) = true := decide_eq_true (by omega)
            have hd3 : decide ((i : Int) < (st.length : Int)) = true := decide_eq_true (by omega)
            go_wp2_with fail
            clear d3 e0 hd1 hd2 hd3
            go_loopg [10] (st.length - (i + 1)) (fun g kv wr => ∃ (m : Nat) (wa : Option Addr) (wc : Nat), i + 1 + m ≤ st.length ∧ g = st.length - (i + 1 + m) ∧ kv = .int .i64 ((i + 1 + m : Nat) : Int) ∧ Hid (MkM w ⟨⟨en, mi, ma, st, Pl.winTo st X i ++ Pl.winRow st X i m⟩, sa, sc, wa, wc⟩ wr))
            case atStart => exact ⟨0, wa1, wc1, by omega, by omega, rfl, Lib.hid (by rw [Pl.winRow, List.append_nil]; exact HI.out)⟩
            case round =>
              obtain ⟨m, wa2, wc2, hm, rfl, rfl, HJ⟩ := hrel
              rename World => wj
              have d3 := box_cell HJ.out.pb 3 (.slice sa st.length sc) rfl
              by_cases hkn : i + 1 + m < st.length
              · have HRow := Lib.hid (show Pl.winTo st X i ++ Pl.winRow st X i (m + 1) = (Pl.winTo st X i ++ Pl.winRow st X i m) ++ Pl.winAt st X i (i + 1 + m) by rw [Pl.winRow, List.append_assoc])
                have HLen := Lib.hid (show (Pl.winTo st X i ++ Pl.winRow st X i m).length ≤ 100 by
                  have h1 := Pl.winTo_len st X (by omega) i (by omega); have h2 := Pl.winRow_len st X i m
                  rw [List.length_append]; omega)
                have hkX : i + 1 + m < X.length := by have := HN.out; unfold Pl.mkN at this; omega
                obtain ⟨kk, hkk⟩ : ∃ kk, i + 1 + m = kk := ⟨_, rfl⟩
                rw [hkk] at hkn hkX HRow ⊢
                generalize Pl.winTo st X i ++ Pl.winRow st X i m = wn at *
                obtain ⟨b, off, rfl, hb, ⟨-, -, -, -, c4, -⟩, hf⟩ := HX.out.six (show i < X.length by omega)
                obtain ⟨b', off', e', -, ⟨-, -, -, -, -, x5⟩, hf'⟩ := HX.out.six hkX
                injection e' with e'
                injection e' with e1 e2
                subst e1; subst e2
                have c4 := cell_below HJ.out.bel c4
                have x5 := cell_below HJ.out.bel x5
                have hfi := hf 4
                have hfk := hf' 5
                clear hf hf' hb
                have HW := Lib.hid (show Pl.winN X i kk = pickZ (Pl.gI (X.getD i []) 4 / 2 ^ kk) 3 by unfold Pl.winN; rw [if_pos hkX])
                have HWA := Lib.hid (show Pl.winAt st X i kk = if Pl.winN X i kk > 0 then [⟨i, kk, max 0 (Pl.winLim st X i kk)⟩] else [] from rfl)
                have HWL := Lib.hid (show Pl.winLim st X i kk = if Pl.winN X i kk > 1 then max (st.getD kk Pl.stage0).s.start (st.getD kk Pl.stage0).m.start - (st.getD i Pl.stage0).m.start - (st.getD i Pl.stage0).mn + pickZ (Pl.gI (X.getD kk []) 5) 3 - 1 else pickZ (Pl.gI (X.getD kk []) 5) 150 from rfl)
                have hLB := Pl.winLim_bd (X := X) HSm.out (show i < st.length by omega) hkn
                have hsi := Pl.getD_small HSm.out (show i < st.length by omega)
                have hsk := Pl.getD_small HSm.out hkn
                obtain ⟨bs, os, esa, hbs, si0, -, -, si3, -, -⟩ := st_getD2 HJ.out.ok.st (show i < st.length by omega)
                obtain ⟨bs', os', esa', -, -, -, -, sk3, -, sk5⟩ := st_getD2 HJ.out.ok.st hkn
                simp only at esa esa' si0 si3 sk3 sk5
                subst esa
                injection esa' with esa'
                injection esa' with e1 e2
                subst e1; subst e2
                have hqd := fits_half hfi kk
                generalize Pl.gI (X.getD i []) 4 = y4 at *
                generalize Pl.gI (X.getD kk []) 5 = y5 at *
                have P0 := Lib.hid (refPick_is (y4 / 2 ^ kk) 3 hqd (by omega))
                have P1 := Lib.hid (refPick_is y5 150 hfk (by omega))
                have P2 := Lib.hid (refPick_is y5 3 hfk (by omega))
                obtain ⟨a1, a2⟩ := pickZ_bd (c := y4 / 2 ^ kk) (n := 3) (by omega)
                obtain ⟨a3, a4⟩ := pickZ_bd (c := y5) (n := 150) (by omega)
                obtain ⟨a5, a6⟩ := pickZ_bd (c := y5) (n := 3) (by omega)
                have gq : IntKind.i64.wrap (y4 / 2 ^ kk) = y4 / 2 ^ kk := wrap_fits hqd
                rw [HW.out] at HWA HWL
                clear HW
                generalize pickZ (y4 / 2 ^ kk) 3 = p0 at *
                generalize pickZ y5 150 = p1 at *
                generalize pickZ y5 3 = p2 at *
                obtain ⟨m1, m2⟩ := hsi.ms; obtain ⟨m3, m4⟩ := hsk.ms; obtain ⟨m5, m6⟩ := hsk.ss; obtain ⟨m7, m8, m9⟩ := hsi.mn
                clear hsi hsk hqd
                generalize (st.getD i Pl.stage0).m.start = msi at *
                generalize (st.getD i Pl.stage0).mn = mni at *
                generalize (st.getD kk Pl.stage0).m.start = msk at *
                generalize (st.getD kk Pl.stage0).s.start = ssk at *
                obtain ⟨LM, hLM⟩ : ∃ LM, Pl.winLim st X i kk = LM := ⟨_, rfl⟩
                rw [hLM] at HWA HWL hLB
                clear hLM
                obtain ⟨hL1, hL2⟩ := hLB
                go_upto_if 201 with (fail)
                have k1 : (kk : Int) < (X.length : Int) := by omega
                have i1 : (0 : Int) ≤ (kk : Int) := by omega
                go_wp2_with fail
                refine (P0.out _).mono ?_; rintro e we ⟨rfl, rfl⟩
                go_upto_if 211 with (fail)
                clear c4 d3
                by_cases hp : p0 > 0
                · rw [if_pos hp] at HWA
                  go_upto_if 222 with ((go_at_call 61; (with_reducible refine (P1.out _).mono ?_); rintro _ wv ⟨rfl, rfl⟩))
                  have HF0 := Lib.hid (Fil.new HJ.out #[.int .i64 (i : Int), .int .i64 (kk : Int), .int .i64 p1] 110)
                  have HBn := Lib.hid (below_new wv (.cells #[.int .i64 (i : Int), .int .i64 (kk : Int), .int .i64 p1] 110))
                  have si0 := cell_below HBn.out si0; have si3 := cell_below HBn.out si3; have sk3 := cell_below HBn.out sk3; have sk5 := cell_below HBn.out sk5; have x5 := cell_below HBn.out x5
                  generalize wv.alloc (.cells #[.int .i64 (i : Int), .int .i64 (kk : Int), .int .i64 p1] 110) = ws at *
                  generalize wv.heap.size = S at *
                  go_cut [9, 10, 12] (fun s9 s10 s12 wx => s9 = .int .i64 (i : Int) ∧ s10 = .int .i64 (kk : Int) ∧ s12 = .pointer (some ⟨S, 0, none⟩) ∧ Hid (Fil w ⟨⟨en, mi, ma, st, wn⟩, some ⟨bs, os, none⟩, sc, wa2, wc2⟩ S #[.int .i64 (i : Int), .int .i64 (kk : Int), .int .i64 LM] 110 wx))
                  case first => as_aux_lemma =>
                    by_cases hp1 : p0 > 1
                    · obtain ⟨M, hM⟩ : ∃ M, max ssk msk = M := ⟨_, rfl⟩
                      have hM' : (if ssk < msk then msk else ssk) = M := by rw [← hM]; split <;> omega
                      have HLM := Lib.hid (show LM = M - msi - mni + p2 - 1 by rw [HWL.out, if_pos hp1, hM])
                      have hM1 : 0 ≤ M ∧ M ≤ 1000 := by omega
                      clear hM
                      have w1 : IntKind.i64.wrap (M - msi) = M - msi := IntWalk.i64_in _ (by omega)
                      have w2 : IntKind.i64.wrap (M - msi - mni) = M - msi - mni := IntWalk.i64_in _ (by omega)
                      have w3 : IntKind.i64.wrap (M - msi - mni + p2) = M - msi - mni + p2 := IntWalk.i64_in _ (by omega)
                      have w4 : IntKind.i64.wrap (M - msi - mni + p2 - 1) = M - msi - mni + p2 - 1 := IntWalk.i64_in _ (by omega)
                      have d3 := box_cell HF0.out.m.pb 3 (.slice (some ⟨bs, os, none⟩) st.length sc) rfl
                      have s2 := box_cell HF0.out.box 2 (.int .i64 p1) rfl
                      have z2 := box_fz HF0.out.box 2
                      have hlt := lt_of_block HF0.out.box
                      have q1 : (0 : Int) ≤ (i : Int) := by omega
                      have q2 : (i : Int) < (st.length : Int) := by omega
                      have q3 : (kk : Int) < (st.length : Int) := by omega
                      have q6 : i < k := by omega
                      have q7 : kk < k := by omega
                      have q4 : ((i : Int)).toNat = i := by omega
                      have q5 : ((kk : Int)).toNat = kk := by omega
                      clear hM1 HWL HWA
                      go_upto_region 39 with (fail)
                      go_still_tail 39, (by kernel_rfl)
                      repeat still_step
                      still_call (P2.out _)
                      repeat still_step
                      refine wpStill_nil ?_
                      change wpList _ _ _ _ _ ws.drew
                      go_wp2_with fail
                      have HF1 := Lib.hid (HF0.out.drew.set 2 (.int .i64 (M - msi - mni + p2 - 1)))
                      go_meet
                      exact ⟨rfl, rfl, rfl, Lib.hid (by rw [HLM.out]; exact HF1.out)⟩
                    · have HLM := Lib.hid (show LM = p1 by rw [HWL.out, if_neg hp1])
                      go_wp2_with fail
                      go_meet
                      exact ⟨rfl, rfl, rfl, Lib.hid (by rw [HLM.out]; exact HF0.out)⟩
                  case rest =>
                    obtain ⟨rfl, rfl, rfl, HF⟩ := hcut
                    clear HF0 HBn si0 si3 sk3 sk5 x5
                    rename World => wq
                    have hM' : (if (0 : Int) < LM then LM else 0) = max 0 LM := by split <;> omega
                    generalize max 0 LM = M at *
                    have s0 := box_cell HF.out.box 0 (.int .i64 (i : Int)) rfl
                    have s1 := box_cell HF.out.box 1 (.int .i64 (kk : Int)) rfl
                    have s2 := box_cell HF.out.box 2 (.int .i64 LM) rfl
                    have z2 := box_fz HF.out.box 2
                    have hlt := lt_of_block HF.out.box
                    go_upto_region 41 with (fail)
                    have HF2 := Lib.hid (HF.out.set 2 (.int .i64 M))
                    clear s0 s1 s2 z2 hlt hM'
                    generalize wq.setCell ⟨S, 2, none⟩ (.int .i64 M) = wr2 at *
                    have s0 := box_cell HF2.out.box 0 (.int .i64 (i : Int)) rfl
                    have s1 := box_cell HF2.out.box 1 (.int .i64 (kk : Int)) rfl
                    have s2 := box_cell HF2.out.box 2 (.int .i64 M) rfl
                    have d4 := box_cell HF2.out.m.pb 4 (.slice wa2 wn.length wc2) rfl
                    have HOwn := Lib.hid (show (wr2.alloc (.cells #[.int .i64 (i : Int), .int .i64 (kk : Int), .int .i64 M] 110)).ownsRow w.heap.size 110 3 (.slice wa2 wn.length wc2) wn.length (wn.flatMap winCells) from own_below HF2.out.m.wrow (below_new _ _))
                    have HNW := Lib.hid (World.news_of_block (w := wr2.alloc (.cells #[.int .i64 (i : Int), .int .i64 (kk : Int), .int .i64 M] 110)) (B := wr2.heap.size) (cs := #[.int .i64 (i : Int), .int .i64 (kk : Int), .int .i64 M]) (t := 110) (fr := (0, 0)) (heap_alloc_new wr2 _))
                    have hsw := HF2.out.m.bel.size
                    have hl5 := HLen.out
                    obtain ⟨i0, hi0, hz0, hz1, hz2⟩ := info_parts info_window
                    go_wp2_with (at_builtin; refine wpList_append_own _ rfl _ _ 62 rfl w.heap.size 110 i0 _ 3 24 Try.underlying62 hi0 hz0 hz1 hz2 rfl (by decide) _ _ _ rfl HOwn.out ⟨wr2.heap.size, 0, none⟩ 1 1 [.int .i64 (i : Int), .int .i64 (kk : Int), .int .i64 M] rfl rfl HNW.out ?c2 ?c3 ?c4 ?c5 ?_)
                    case c2 => simp [Value.oneCell']
                    case c3 => unfold maxLen; omega
                    case c4 => omega
                    case c5 => omega
                    intro v' w3 hown' hgrow _
                    obtain ⟨a', c', rfl, -⟩ := own_slice hown'
                    obtain ⟨HM3, hp3⟩ := HF2.out.m.win ⟨(i : Int), (kk : Int), M⟩ (below_new _ _) hown' hgrow
                    have p4 := box_cell hp3 4 (.slice wa2 wn.length wc2) rfl
                    have z4 := box_fz hp3 4
                    have hlp := lt_of_block hp3
                    have HM3 := Lib.hid HM3
                    clear hown' hgrow HOwn HNW s0 s1 s2 d4 hi0 hz0 hz1 hz2 hp3
                    have e0 : IntKind.i64.wrap ((kk : Int) + 1) = (kk : Int) + 1 := IntWalk.i64_in _ (by omega)
                    go_wp2_with fail
                    go_roundg (st.length - (i + 1 + (m + 1)))
                    case rel => exact ⟨m + 1, a', c', by omega, rfl, by go_num, Lib.hid (by rw [HRow.out, HWA.out]; exact HM3.out)⟩
                    case measure => omega
                · rw [if_neg hp] at HWA
                  have e0 : IntKind.i64.wrap ((kk : Int) + 1) = (kk : Int) + 1 := IntWalk.i64_in _ (by omega)
                  go_wp2_with fail
                  go_roundg (st.length - (i + 1 + (m + 1)))
                  case rel => exact ⟨m + 1, wa2, wc2, by omega, rfl, by go_num, Lib.hid (by rw [HRow.out, HWA.out, List.append_nil]; exact HJ.out)⟩
                  case measure => omega
              · have hmm : st.length - (i + 1) = m := by omega
                have HT := Lib.hid (show Pl.winTo st X (i + 1) = Pl.winTo st X i ++ Pl.winRow st X i m by rw [Pl.winTo, hmm])
                have k1 : ¬ ((i + 1 + m : Nat) : Int) < (st.length : Int) := by omega
                have e0 : IntKind.i64.wrap ((i : Int) + 1) = (i : Int) + 1 := IntWalk.i64_in _ (by omega)
                go_wp2_with fail
                go_roundg (st.length - (i + 1))
                case rel => exact ⟨i + 1, wa2, wc2, by omega, rfl, by go_num, Lib.hid (by rw [HT.out]; exact HJ.out)⟩
                case measure => omega
          · obtain rfl : i = st.length := by omega
            have HMd := Lib.hid (show Pl.made X = ⟨en, mi, ma, st, Pl.winTo st X st.length⟩ by rw [HMade.out, hln])
            clear hln
            generalize Pl.winTo st X st.length = wn at *
            have f0 := box_cell HI.out.pb 0 (.int .i64 en) rfl
            have f1 := box_cell HI.out.pb 1 (.int .i64 mi) rfl
            have f2 := box_cell HI.out.pb 2 (.int .i64 ma) rfl
            have f4 := box_cell HI.out.pb 4 (.slice wa1 wn.length wc1) rfl
            have r0 := box_cell HI.out.rb 0 (.int .i64 0) rfl
            have r1 := box_cell HI.out.rb 1 (.int .i64 0) rfl
            have r2 := box_cell HI.out.rb 2 (.int .i64 0) rfl
            have r3 := box_cell HI.out.rb 3 (.slice none 0 0) rfl
            have r4 := box_cell HI.out.rb 4 (.slice none 0 0) rfl
            have z0 := box_fz HI.out.rb 0
            have z1 := box_fz HI.out.rb 1
            have z2 := box_fz HI.out.rb 2
            have z3 := box_fz HI.out.rb 3
            have z4 := box_fz HI.out.rb 4
            have hlt := lt_of_block HI.out.rb
            obtain ⟨FE, FB⟩ := HI.out.done
            have FE := Lib.hid FE
            have FB := Lib.hid FB
            go_wp2_with fail
            clear f0 f1 f2 f4 r0 r1 r2 r3 r4 z0 z1 z2 z3 z4 hlt
            generalize ((((wi.setCell ⟨w.heap.size, 0, none⟩ (.int .i64 en)).setCell ⟨w.heap.size, 1, none⟩ (.int .i64 mi)).setCell ⟨w.heap.size, 2, none⟩ (.int .i64 ma)).setCell ⟨w.heap.size, 3, none⟩ (.slice sa st.length sc)).setCell ⟨w.heap.size, 4, none⟩ (.slice wa1 wn.length wc1) = we at *
            have r0 := box_cell FB.out 0 (.int .i64 en) rfl
            have r1 := box_cell FB.out 1 (.int .i64 mi) rfl
            have r2 := box_cell FB.out 2 (.int .i64 ma) rfl
            have r3 := box_cell FB.out 3 (.slice sa st.length sc) rfl
            have r4 := box_cell FB.out 4 (.slice wa1 wn.length wc1) rfl
            refine bodyPost_ret (v := PlanP.val ⟨⟨en, mi, ma, st, wn⟩, sa, sc, wa1, wc1⟩) (by simp [results, Try.results35, go_sem, r0, r1, r2, r3, r4]) rfl ?_
            unfold MadePost
            rw [HMd.out]
            exact ⟨sa, sc, wa1, wc1, rfl, FE.out.1, FE.out.2.1, FE.out.2.2⟩
end Go.Proofs.Ytjdhjlhcdpekbaa.Pe
