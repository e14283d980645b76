/-
  The statements' cluster tools, as integers determine them.
-/
import Derived.Test.YtiolmcnngpaapaaRo
import Derived.Test.YtiolmcnngpaapaaPq
import Derived.Lib.MinMax
import Derived.Deep.LoopGhost
import Derived.Deep.AppendLies
import Derived.Deep.RegionLawGrows
import Derived.Deep.RegionLaw
import Derived.Deep.RegionHeld3
namespace Go.Proofs.Ytiolmcnngpaapaa
open Go.RowKit Go.Shelf Cl

theorem rpick_any (c n : Int) (w : World) (hc : Fits c) (hn : 0 < n ∧ n ≤ 1000000000) : Calls Try.prog 33 #[.int .i64 c, .int .i64 n] w fun e w' => e = .returned (.int .i64 (pickZ c n)) ∧ w = w' := by
  obtain ⟨c1, c2⟩ := hc
  obtain ⟨n1, n2⟩ := hn
  have hne : ¬ n = 0 := by omega
  by_cases h : c < 0
  · have h0 : 0 ≤ -(c + 1) := by omega
    have E := Lib.hid (show pickZ c n = -((c + 1).tmod n) by unfold pickZ; rw [if_pos h, ← Int.neg_tmod, Int.tmod_eq_emod_of_nonneg h0])
    go_enter Try.func33, Try.ntmps33
    go_wp2
    go_ret
    exact ⟨ret_int E.out.symm, rfl⟩
  · have h0 : 0 ≤ c := by omega
    have E := Lib.hid (show pickZ c n = c % n by unfold pickZ; rw [if_neg h])
    go_enter Try.func33, Try.ntmps33
    go_wp2
    go_ret
    exact ⟨ret_int E.out.symm, rfl⟩
def mkCh (x4 : Int) (X : List (List Int)) (i : Nat) : Cham := ⟨pickZ ((X.getD i [x4, x4]).getD 0 0) 60, pickZ ((X.getD i [x4, x4]).getD 1 0) 40⟩
def mkN (X : List (List Int)) : Nat := max 1 (min X.length 4)
def mkTo (x4 : Int) (X : List (List Int)) (k : Nat) : List Cham := (List.range k).map (mkCh x4 X)
def mkT (x0 x1 x2 x3 x4 : Int) (X : List (List Int)) : Tool := ⟨mkTo x4 X (mkN X), 1 + pickZ x0 5, 1 + pickZ x1 5, pickZ x2 9, 1 + pickZ x3 2⟩
theorem mkTo_succ (x4 : Int) (X : List (List Int)) (k : Nat) : mkTo x4 X (k + 1) = mkTo x4 X k ++ [mkCh x4 X k] := by unfold mkTo; rw [List.range_succ, List.map_append]; rfl
theorem mkTo_len (x4 : Int) (X : List (List Int)) (k : Nat) : (mkTo x4 X k).length = k := by simp [mkTo]
theorem mkN_bd (X : List (List Int)) : 1 ≤ mkN X ∧ mkN X ≤ 4 := by unfold mkN; omega
theorem mkT_valid (x0 x1 x2 x3 x4 : Int) (X : List (List Int)) : validT (mkT x0 x1 x2 x3 x4 X) = true := by
  have h0 := pickZ_bd (c := x0) (n := 5) (by omega)
  have h1 := pickZ_bd (c := x1) (n := 5) (by omega)
  have h2 := pickZ_bd (c := x2) (n := 9) (by omega)
  have h3 := pickZ_bd (c := x3) (n := 2) (by omega)
  have h4 := mkN_bd X
  refine validT_iff.2 ⟨?_, ?_, ?_, ?_, ?_, ?_⟩
  · simp only [mkT]; omega
  · simp only [mkT]; omega
  · simp only [mkT]; omega
  · simp only [mkT]; omega
  · simp only [mkT, mkTo_len]; omega
  · intro y hy
    simp only [mkT, mkTo, List.mem_map] at hy
    obtain ⟨i, _, rfl⟩ := hy
    have h5 := pickZ_bd (c := (X.getD i [x4, x4]).getD 0 0) (n := 60) (by omega)
    have h6 := pickZ_bd (c := (X.getD i [x4, x4]).getD 1 0) (n := 40) (by omega)
    simp only [mkCh]; omega
abbrev ChO := RowO chamCells 60 2
theorem info_chamber : (Try.prog.info? 60).map (fun i => (i.zero, i.size, i.bytes)) = some (some (.agg #[.int .i64 0, .int .i64 0]), 2, 16) := by kernel_rfl
/-- What Make leaves. -/
def MakeP (c : Tool) (w : World) (e : Ending) (w' : World) : Prop := ∃ a k, e = .returned (toolV c a k) ∧ ChA w' a k c.chs ∧ Below w.heap.size w w'
abbrev fiveV (x0 x1 x2 x3 x4 : Int) : Value := .agg #[.int .i64 x0, .int .i64 x1, .int .i64 x2, .int .i64 x3, .int .i64 x4]
abbrev fiveObj (x0 x1 x2 x3 x4 : Int) : Obj := .cells #[.int .i64 x0, .int .i64 x1, .int .i64 x2, .int .i64 x3, .int .i64 x4] 26
abbrev tObj (v : Value) (p q t b : Int) : Obj := .cells #[v, .int .i64 p, .int .i64 q, .int .i64 t, .int .i64 b] 24
/-- The boxes of Make: the integers, the answer, the tool so far. -/
structure MkAt (W : World) (x0 x1 x2 x3 x4 : Int) (L : List Cham) (v : Value) (p q t b : Int) (w : World) : Prop where
  five : w.heap[W.heap.size]? = some (fiveObj x0 x1 x2 x3 x4)
  res : w.heap[W.heap.size + 1]? = some (tObj (.slice none 0 0) 0 0 0 0)
  tool : w.heap[W.heap.size + 2]? = some (tObj v p q t b)
  row : ChO w (W.heap.size + 3) v L
  bel : Below W.heap.size W w
theorem MkAt.below {W : World} {x0 x1 x2 x3 x4 : Int} {L : List Cham} {v : Value} {p q t b : Int} {w w' : World} (h : MkAt W x0 x1 x2 x3 x4 L v p q t b w) (hb : Below w.heap.size w w') : MkAt W x0 x1 x2 x3 x4 L v p q t b w' :=
  ⟨box_below h.five hb, box_below h.res hb, box_below h.tool hb, h.row.below hb, below_step h.bel hb⟩
set_option maxRecDepth 100000 in
set_option maxHeartbeats 2000000 in
theorem rMake_any (x0 x1 x2 x3 x4 : Int) (h0 : Fits x0) (h1 : Fits x1) (h2 : Fits x2) (h3 : Fits x3) (h4 : Fits x4) (X : List (List Int)) (a : Option Addr) (c : Nat) (w : World) (hX : ArrsA 2 w a c X) :
    Calls Try.prog 13 #[fiveV x0 x1 x2 x3 x4, .slice a X.length c] w (MakeP (mkT x0 x1 x2 x3 x4 X) w) := by
  have P0 := Lib.hid (fun w => rpick_any x0 5 w h0 (by omega))
  have P1 := Lib.hid (fun w => rpick_any x1 5 w h1 (by omega))
  have P2 := Lib.hid (fun w => rpick_any x2 9 w h2 (by omega))
  have P3 := Lib.hid (fun w => rpick_any x3 2 w h3 (by omega))
  have b0 := pickZ_bd (c := x0) (n := 5) (by omega)
  have b1 := pickZ_bd (c := x1) (n := 5) (by omega)
  have b3 := pickZ_bd (c := x3) (n := 2) (by omega)
  have HE := Lib.hid (show mkT x0 x1 x2 x3 x4 X = ⟨mkTo x4 X (mkN X), 1 + pickZ x0 5, 1 + pickZ x1 5, pickZ x2 9, 1 + pickZ x3 2⟩ from rfl)
  generalize mkT x0 x1 x2 x3 x4 X = tool at *
  generalize pickZ x0 5 = p0 at *
  generalize pickZ x1 5 = p1 at *
  generalize pickZ x2 9 = p2 at *
  generalize pickZ x3 2 = p3 at *
  have d0 : IntKind.i64.wrap (1 + p0) = 1 + p0 := IntWalk.i64_in _ (by omega)
  have d1 : IntKind.i64.wrap (1 + p1) = 1 + p1 := IntWalk.i64_in _ (by omega)
  have d3 : IntKind.i64.wrap (1 + p3) = 1 + p3 := IntWalk.i64_in _ (by omega)
  have HXs := Lib.hid hX
  have hl := Nat.le_trans hX.1 hX.2.1
  unfold maxLen at hl
  have HF := Lib.hid (show ((w.alloc (fiveObj x0 x1 x2 x3 x4)).alloc (tObj (.slice none 0 0) 0 0 0 0)).heap[w.heap.size]? = some (fiveObj x0 x1 x2 x3 x4) from box_below (heap_alloc_new w _) (below_new _ _))
  have HR := Lib.hid (show ((w.alloc (fiveObj x0 x1 x2 x3 x4)).alloc (tObj (.slice none 0 0) 0 0 0 0)).heap[w.heap.size + 1]? = some (tObj (.slice none 0 0) 0 0 0 0) from by
    have := heap_alloc_new (w.alloc (fiveObj x0 x1 x2 x3 x4)) (tObj (.slice none 0 0) 0 0 0 0)
    rw [show (w.alloc (fiveObj x0 x1 x2 x3 x4)).heap.size = w.heap.size + 1 by simp] at this; exact this)
  have HB := Lib.hid (below_step (below_new w (fiveObj x0 x1 x2 x3 x4)) (below_new (w.alloc (fiveObj x0 x1 x2 x3 x4)) (tObj (.slice none 0 0) 0 0 0 0)))
  have hsz : ((w.alloc (fiveObj x0 x1 x2 x3 x4)).alloc (tObj (.slice none 0 0) 0 0 0 0)).heap.size = w.heap.size + 2 := by simp
  have HSz := Lib.hid hsz
  clear hX hsz
  go_enter Try.func13, Try.ntmps13
  go_upto_region 1 with (fail)
  generalize (w.alloc (fiveObj x0 x1 x2 x3 x4)).alloc (tObj (.slice none 0 0) 0 0 0 0) = w1 at *
  have HK : Hid (∀ v, Below w1.heap.size w1 v → v.cell? ⟨w.heap.size, 0, none⟩ = some (.int .i64 x0) ∧ v.cell? ⟨w.heap.size, 1, none⟩ = some (.int .i64 x1) ∧ v.cell? ⟨w.heap.size, 2, none⟩ = some (.int .i64 x2) ∧ v.cell? ⟨w.heap.size, 3, none⟩ = some (.int .i64 x3)) :=
    Lib.hid fun v hv => ⟨box_cell (box_below HF.out hv) 0 _ rfl, box_cell (box_below HF.out hv) 1 _ rfl, box_cell (box_below HF.out hv) 2 _ rfl, box_cell (box_below HF.out hv) 3 _ rfl⟩
  go_cut [5] (fun s5 wx => s5 = .pointer (some ⟨w1.heap.size, 0, none⟩) ∧ Hid (wx = (w1.alloc (tObj (.slice none 0 0) (1 + p0) (1 + p1) p2 (1 + p3))).drew))
  case first =>
    go_region_held3 (fun w' => w'.cell? ⟨w.heap.size, 0, none⟩ = some (.int .i64 x0) ∧ w'.cell? ⟨w.heap.size, 1, none⟩ = some (.int .i64 x1) ∧ w'.cell? ⟨w.heap.size, 2, none⟩ = some (.int .i64 x2) ∧ w'.cell? ⟨w.heap.size, 3, none⟩ = some (.int .i64 x3)) (first | with_reducible exact HK.out _ (Below.refl _ _).drew | with_reducible exact HK.out _ (below_new _ _).drew)
      ((go_at_call 33; first | ((with_reducible refine (P0.out _).mono ?_); rintro _ _ ⟨rfl, rfl⟩) | ((with_reducible refine (P1.out _).mono ?_); rintro _ _ ⟨rfl, rfl⟩) | ((with_reducible refine (P2.out _).mono ?_); rintro _ _ ⟨rfl, rfl⟩) | ((with_reducible refine (P3.out _).mono ?_); rintro _ _ ⟨rfl, rfl⟩)))
    all_goals
      go_wp2_with fail
      go_meet
      exact ⟨rfl, Lib.hid rfl⟩
  case rest =>
    obtain ⟨rfl, HW1⟩ := hcut
    have B2 := Lib.hid (show Below w.heap.size w wc by rw [HW1.out]; exact below_step HB.out (below_new _ _).drew)
    have F2 := Lib.hid (show wc.heap[w.heap.size]? = some (fiveObj x0 x1 x2 x3 x4) by rw [HW1.out]; exact box_below HF.out (below_new w1 (tObj (.slice none 0 0) (1 + p0) (1 + p1) p2 (1 + p3))).drew)
    have R2 := Lib.hid (show wc.heap[w.heap.size + 1]? = some (tObj (.slice none 0 0) 0 0 0 0) by rw [HW1.out]; exact box_below HR.out (below_new w1 (tObj (.slice none 0 0) (1 + p0) (1 + p1) p2 (1 + p3))).drew)
    have T2 := Lib.hid (show wc.heap[w.heap.size + 2]? = some (tObj (.slice none 0 0) (1 + p0) (1 + p1) p2 (1 + p3)) by
      rw [HW1.out]
      have := heap_alloc_new w1 (tObj (.slice none 0 0) (1 + p0) (1 + p1) p2 (1 + p3))
      rw [HSz.out] at this; exact this)
    have hsz := HSz.out
    rw [hsz]
    have hN := mkN_bd X
    have HNe := Lib.hid (show mkN X = max 1 (min X.length 4) from rfl)
    have hmx : max (1 : Int) (min (X.length : Int) 4) = ((mkN X : Nat) : Int) := by have := HNe.out; omega
    generalize mkN X = N at *
    clear HW1 HK HF HR HB HSz hsz P0 P1 P2 P3 d0 d1 d3
    go_wp2_with fail
    go_loopw [6] (fun iv wr => ∃ (i : Nat) (v : Value), i ≤ N ∧ iv = .int .i64 (i : Int) ∧ Hid (MkAt w x0 x1 x2 x3 x4 (mkTo x4 X i) v (1 + p0) (1 + p1) p2 (1 + p3) wr)) (fun iv _ => N - (intOf iv).toNat)
    case atStart => exact ⟨0, _, Nat.zero_le _, rfl, Lib.hid ⟨F2.out, R2.out, T2.out, RowO.nil _ _ _ _ _, B2.out⟩⟩
    case round =>
      clear F2 R2 T2 B2
      obtain ⟨i, v, hi, rfl, HM⟩ := hrel
      by_cases hlt : i < N
      · have i0 : (0 : Int) ≤ (i : Int) := by omega
        have i1 : (i : Int) < (N : Int) := by omega
        have f4 : wr.cell? ⟨w.heap.size, 4, none⟩ = some (.int .i64 x4) := box_cell HM.out.five 4 _ rfl
        have HS := Lib.hid (mkTo_succ x4 X i)
        have HC := Lib.hid (show mkCh x4 X i = ⟨pickZ ((X.getD i [x4, x4]).getD 0 0) 60, pickZ ((X.getD i [x4, x4]).getD 1 0) 40⟩ from rfl)
        have hkl := mkTo_len x4 X i
        by_cases hx : i < X.length
        · obtain ⟨b, off, rfl, hb, hc⟩ := HXs.out.2.2.2 i hx
          obtain ⟨hlen, hfit⟩ := HXs.out.2.2.1 X[i] (List.getElem_mem hx)
          rw [show X.getD i [x4, x4] = X[i] by rw [List.getD_eq_getElem?_getD, List.getElem?_eq_getElem hx]; rfl] at HC
          generalize X[i] = y at *
          match y, hlen with
          | [y0, y1], _ =>
            have c0 := cell_below HM.out.bel (hc 0 y0 rfl)
            have c1 := cell_below HM.out.bel (hc 1 y1 rfl)
            have g0 := hfit y0 (by simp); have g1 := hfit y1 (by simp)
            rw [Nat.add_zero] at c0
            replace c0 := cell_below (below_new wr (.cells #[.int .i64 x4, .int .i64 x4] 68)) c0
            replace c1 := cell_below (below_new wr (.cells #[.int .i64 x4, .int .i64 x4] 68)) c1
            have HC2 := Lib.hid (show mkCh x4 X i = ⟨pickZ y0 60, pickZ y1 40⟩ from HC.out)
            have k1 : (i : Int) < (X.length : Int) := by omega
            clear hc hfit HC
            go_upto_region 8 with (fail)
            clear c0 c1
            have HYd := Lib.hid (show (wr.alloc (.cells #[.int .i64 y0, .int .i64 y1] 68)).heap[wr.heap.size]? = some (.cells #[.int .i64 y0, .int .i64 y1] 68) from heap_alloc_new wr _)
            have HMd := Lib.hid (HM.out.below (below_new wr (.cells #[.int .i64 y0, .int .i64 y1] 68)))
            generalize wr.alloc (.cells #[.int .i64 y0, .int .i64 y1] 68) = wd at *
            have HMd2 := HMd; have HYd2 := HYd
            obtain ⟨va, vc, hvf, -⟩ := own_slice HMd.out.row
            subst hvf
            rw [hkl] at HMd
            have q0 : wd.cell? ⟨w.heap.size + 2, 0, none⟩ = some (.slice va i vc) := by have := box_cell HMd.out.tool 0 _ rfl; exact this
            have q1 : wd.cell? ⟨wr.heap.size, 0, none⟩ = some (.int .i64 y0) := box_cell HYd.out 0 _ rfl
            have q2 : wd.cell? ⟨wr.heap.size, 1, none⟩ = some (.int .i64 y1) := box_cell HYd.out 1 _ rfl
            have P6 := Lib.hid (fun w => rpick_any y0 60 w g0 (by omega))
            have P7 := Lib.hid (fun w => rpick_any y1 40 w g1 (by omega))
            generalize pickZ y0 60 = p6 at *
            generalize pickZ y1 40 = p7 at *
            obtain ⟨n0, hi0, hz0, hz1, hz2⟩ := info_parts info_chamber
            have HO := Lib.hid (show ((wd.alloc (.cells #[.int .i64 p6, .int .i64 p7] 60)).drew).ownsRow (w.heap.size + 3) 60 2 (.slice va i vc) i ((mkTo x4 X i).flatMap chamCells) from by
              have := HMd.out.row
              unfold ChO RowO at this
              rw [hkl] at this
              exact own_below this (below_new wd _).drew)
            have HNW := Lib.hid (World.news_of_block (w := (wd.alloc (.cells #[.int .i64 p6, .int .i64 p7] 60)).drew) (B := wd.heap.size) (cs := #[.int .i64 p6, .int .i64 p7]) (t := 60) (fr := (0, 0)) (heap_alloc_new wd _))
            have HG := Lib.hid (show ∀ W, (wd.alloc (.cells #[.int .i64 p6, .int .i64 p7] 60)).drew.grownBy W (Value.slice va i vc).ownBlock → W.heap[w.heap.size]? = some (fiveObj x0 x1 x2 x3 x4) ∧ W.heap[w.heap.size + 1]? = some (tObj (.slice none 0 0) 0 0 0 0) ∧ W.heap[w.heap.size + 2]? = some (tObj (.slice va i vc) (1 + p0) (1 + p1) p2 (1 + p3)) ∧ Below w.heap.size w W from fun W hg => by
              have hbw := (below_new wd (.cells #[.int .i64 p6, .int .i64 p7] 60)).drew
              have hne : ∀ j, j < w.heap.size + 3 → some j ≠ (Value.slice va i vc).ownBlock := fun j hj e => by have := (HO.out.lt j e.symm).1; omega
              refine ⟨(hg.block _ (lt_of_block (box_below HMd.out.five hbw)) (hne _ (by omega))).trans (box_below HMd.out.five hbw), (hg.block _ (lt_of_block (box_below HMd.out.res hbw)) (hne _ (by omega))).trans (box_below HMd.out.res hbw), (hg.block _ (lt_of_block (box_below HMd.out.tool hbw)) (hne _ (by omega))).trans (box_below HMd.out.tool hbw), ?_⟩
              exact (below_step HMd.out.bel hbw).grown hg (below_step HMd.out.bel hbw).size (fun j e => by have := (HO.out.lt j e).1; omega))
            have hsz9 : w.heap.size + 3 ≤ ((wd.alloc (.cells #[.int .i64 p6, .int .i64 p7] 60)).drew).heap.size := by have := lt_of_block HMd.out.tool; simp; omega
            have hi4 : i ≤ 4 := by omega
            have q0' := cell_below (below_new wd (.cells #[.int .i64 p6, .int .i64 p7] 60)).drew q0
            have HFin := Lib.hid (show ∀ g9 cap9 w9, w9.ownsRow (w.heap.size + 3) 60 2 (.slice (some ⟨g9, 0, none⟩) (i + 1) cap9) (i + 1) ((mkTo x4 X i).flatMap chamCells ++ [.int .i64 p6, .int .i64 p7]) → (wd.alloc (.cells #[.int .i64 p6, .int .i64 p7] 60)).drew.grownBy w9 (Value.slice va i vc).ownBlock →
                MkAt w x0 x1 x2 x3 x4 (mkTo x4 X (i + 1)) (.slice (some ⟨g9, 0, none⟩) (i + 1) cap9) (1 + p0) (1 + p1) p2 (1 + p3) (w9.setCell ⟨w.heap.size + 2, 0, none⟩ (.slice (some ⟨g9, 0, none⟩) (i + 1) cap9)) from fun g9 cap9 w9 hown hg => by
              obtain ⟨e1, e2, e3, e4⟩ := HG.out w9 hg
              have hc : Ch (fun i => i = w.heap.size + 2) w9 (w9.setCell ⟨w.heap.size + 2, 0, none⟩ (.slice (some ⟨g9, 0, none⟩) (i + 1) cap9)) := Ch.grown (grown_set (w := w9) (w.heap.size + 2) 0 _) (fun i e => by injection e with e; exact e.symm)
              refine ⟨(hc.block _ (lt_of_block e1) (by omega)).trans e1, (hc.block _ (lt_of_block e2) (by omega)).trans e2, block_set (o := 0) e3 _, ?_, e4.grown (grown_set (w := w9) (w.heap.size + 2) 0 _) e4.size (fun j e => by injection e with e; omega)⟩
              have hrow : ChO w9 (w.heap.size + 3) (.slice (some ⟨g9, 0, none⟩) (i + 1) cap9) (mkTo x4 X (i + 1)) := by
                rw [HS.out, HC2.out]
                refine RowO.snoc ?_
                rw [hkl]; exact hown
              exact RowO.ch hrow hc (fun j e h => by have := (hown.lt j e).1; omega))
            clear HC2
            go_region_law (first | (refine step_append_lies _ (by rfl) _ _ _ (by rfl) (w.heap.size + 3) 60 n0 _ 2 16 Try.underlying22 hi0 hz0 hz1 hz2 rfl (by decide) (.slice va i vc) i ((mkTo x4 X i).flatMap chamCells) (by rfl) HO.out ⟨wd.heap.size, 0, none⟩ 1 1 [.int .i64 p6, .int .i64 p7] (by rfl) (by rfl) HNW.out (by simp [Value.oneCell']) (by decide) (by unfold maxLen; omega) (by omega) hsz9 (wd.heap.size + 1) (by simp) ?_; intro g9 cap9 w9 hown9 hg9 hat9 hlt9; have FF := HG.out w9 hg9; have a0 := box_cell FF.2.2.1 0 _ rfl; have z0 := box_fz FF.2.2.1 0; have l0 := lt_of_block FF.2.2.1) | (go_simp; go_at_call 33; first | ((with_reducible refine (P6.out _).mono ?_); rintro _ _ ⟨rfl, rfl⟩) | ((with_reducible refine (P7.out _).mono ?_); rintro _ _ ⟨rfl, rfl⟩)))
            all_goals
              have X9 := Lib.hid (HFin.out g9 cap9 w9 hown9 hg9)
              clear hown9 hg9 hat9 hlt9 FF a0 z0 l0 HFin HG HNW HO
              go_wp2_with fail
              go_roundw
              case rel => exact ⟨i + 1, _, by omega, by go_num, X9⟩
              case measure => simp [intOf]; omega
        · have k1 : ¬ (i : Int) < (X.length : Int) := by omega
          rw [show X.getD i [x4, x4] = [x4, x4] by rw [List.getD_eq_getElem?_getD, List.getElem?_eq_none (by omega)]; rfl] at HC
          have HC2 := Lib.hid (show mkCh x4 X i = ⟨pickZ x4 60, pickZ x4 40⟩ from HC.out)
          clear HC
          go_upto_region 8 with (fail)
          have HYd := Lib.hid (show (wr.alloc (.cells #[.int .i64 x4, .int .i64 x4] 68)).heap[wr.heap.size]? = some (.cells #[.int .i64 x4, .int .i64 x4] 68) from heap_alloc_new wr _)
          have HMd := Lib.hid (HM.out.below (below_new wr (.cells #[.int .i64 x4, .int .i64 x4] 68)))
          generalize wr.alloc (.cells #[.int .i64 x4, .int .i64 x4] 68) = wd at *
          have HMd2 := HMd; have HYd2 := HYd
          obtain ⟨va, vc, hvf, -⟩ := own_slice HMd.out.row
          subst hvf
          rw [hkl] at HMd
          have q0 : wd.cell? ⟨w.heap.size + 2, 0, none⟩ = some (.slice va i vc) := by have := box_cell HMd.out.tool 0 _ rfl; exact this
          have q1 : wd.cell? ⟨wr.heap.size, 0, none⟩ = some (.int .i64 x4) := box_cell HYd.out 0 _ rfl
          have q2 : wd.cell? ⟨wr.heap.size, 1, none⟩ = some (.int .i64 x4) := box_cell HYd.out 1 _ rfl
          have P6 := Lib.hid (fun w => rpick_any x4 60 w h4 (by omega))
          have P7 := Lib.hid (fun w => rpick_any x4 40 w h4 (by omega))
          generalize pickZ x4 60 = p6 at *
          generalize pickZ x4 40 = p7 at *
          obtain ⟨n0, hi0, hz0, hz1, hz2⟩ := info_parts info_chamber
          have HO := Lib.hid (show ((wd.alloc (.cells #[.int .i64 p6, .int .i64 p7] 60)).drew).ownsRow (w.heap.size + 3) 60 2 (.slice va i vc) i ((mkTo x4 X i).flatMap chamCells) from by
            have := HMd.out.row
            unfold ChO RowO at this
            rw [hkl] at this
            exact own_below this (below_new wd _).drew)
          have HNW := Lib.hid (World.news_of_block (w := (wd.alloc (.cells #[.int .i64 p6, .int .i64 p7] 60)).drew) (B := wd.heap.size) (cs := #[.int .i64 p6, .int .i64 p7]) (t := 60) (fr := (0, 0)) (heap_alloc_new wd _))
          have HG := Lib.hid (show ∀ W, (wd.alloc (.cells #[.int .i64 p6, .int .i64 p7] 60)).drew.grownBy W (Value.slice va i vc).ownBlock → W.heap[w.heap.size]? = some (fiveObj x0 x1 x2 x3 x4) ∧ W.heap[w.heap.size + 1]? = some (tObj (.slice none 0 0) 0 0 0 0) ∧ W.heap[w.heap.size + 2]? = some (tObj (.slice va i vc) (1 + p0) (1 + p1) p2 (1 + p3)) ∧ Below w.heap.size w W from fun W hg => by
            have hbw := (below_new wd (.cells #[.int .i64 p6, .int .i64 p7] 60)).drew
            have hne : ∀ j, j < w.heap.size + 3 → some j ≠ (Value.slice va i vc).ownBlock := fun j hj e => by have := (HO.out.lt j e.symm).1; omega
            refine ⟨(hg.block _ (lt_of_block (box_below HMd.out.five hbw)) (hne _ (by omega))).trans (box_below HMd.out.five hbw), (hg.block _ (lt_of_block (box_below HMd.out.res hbw)) (hne _ (by omega))).trans (box_below HMd.out.res hbw), (hg.block _ (lt_of_block (box_below HMd.out.tool hbw)) (hne _ (by omega))).trans (box_below HMd.out.tool hbw), ?_⟩
            exact (below_step HMd.out.bel hbw).grown hg (below_step HMd.out.bel hbw).size (fun j e => by have := (HO.out.lt j e).1; omega))
          have hsz9 : w.heap.size + 3 ≤ ((wd.alloc (.cells #[.int .i64 p6, .int .i64 p7] 60)).drew).heap.size := by have := lt_of_block HMd.out.tool; simp; omega
          have hi4 : i ≤ 4 := by omega
          have q0' := cell_below (below_new wd (.cells #[.int .i64 p6, .int .i64 p7] 60)).drew q0
          have HFin := Lib.hid (show ∀ g9 cap9 w9, w9.ownsRow (w.heap.size + 3) 60 2 (.slice (some ⟨g9, 0, none⟩) (i + 1) cap9) (i + 1) ((mkTo x4 X i).flatMap chamCells ++ [.int .i64 p6, .int .i64 p7]) → (wd.alloc (.cells #[.int .i64 p6, .int .i64 p7] 60)).drew.grownBy w9 (Value.slice va i vc).ownBlock →
              MkAt w x0 x1 x2 x3 x4 (mkTo x4 X (i + 1)) (.slice (some ⟨g9, 0, none⟩) (i + 1) cap9) (1 + p0) (1 + p1) p2 (1 + p3) (w9.setCell ⟨w.heap.size + 2, 0, none⟩ (.slice (some ⟨g9, 0, none⟩) (i + 1) cap9)) from fun g9 cap9 w9 hown hg => by
            obtain ⟨e1, e2, e3, e4⟩ := HG.out w9 hg
            have hc : Ch (fun i => i = w.heap.size + 2) w9 (w9.setCell ⟨w.heap.size + 2, 0, none⟩ (.slice (some ⟨g9, 0, none⟩) (i + 1) cap9)) := Ch.grown (grown_set (w := w9) (w.heap.size + 2) 0 _) (fun i e => by injection e with e; exact e.symm)
            refine ⟨(hc.block _ (lt_of_block e1) (by omega)).trans e1, (hc.block _ (lt_of_block e2) (by omega)).trans e2, block_set (o := 0) e3 _, ?_, e4.grown (grown_set (w := w9) (w.heap.size + 2) 0 _) e4.size (fun j e => by injection e with e; omega)⟩
            have hrow : ChO w9 (w.heap.size + 3) (.slice (some ⟨g9, 0, none⟩) (i + 1) cap9) (mkTo x4 X (i + 1)) := by
              rw [HS.out, HC2.out]
              refine RowO.snoc ?_
              rw [hkl]; exact hown
            exact RowO.ch hrow hc (fun j e h => by have := (hown.lt j e).1; omega))
          clear HC2
          go_region_law (first | (refine step_append_lies _ (by rfl) _ _ _ (by rfl) (w.heap.size + 3) 60 n0 _ 2 16 Try.underlying22 hi0 hz0 hz1 hz2 rfl (by decide) (.slice va i vc) i ((mkTo x4 X i).flatMap chamCells) (by rfl) HO.out ⟨wd.heap.size, 0, none⟩ 1 1 [.int .i64 p6, .int .i64 p7] (by rfl) (by rfl) HNW.out (by simp [Value.oneCell']) (by decide) (by unfold maxLen; omega) (by omega) hsz9 (wd.heap.size + 1) (by simp) ?_; intro g9 cap9 w9 hown9 hg9 hat9 hlt9; have FF := HG.out w9 hg9; have a0 := box_cell FF.2.2.1 0 _ rfl; have z0 := box_fz FF.2.2.1 0; have l0 := lt_of_block FF.2.2.1) | (go_simp; go_at_call 33; first | ((with_reducible refine (P6.out _).mono ?_); rintro _ _ ⟨rfl, rfl⟩) | ((with_reducible refine (P7.out _).mono ?_); rintro _ _ ⟨rfl, rfl⟩)))
          all_goals
            have X9 := Lib.hid (HFin.out g9 cap9 w9 hown9 hg9)
            clear hown9 hg9 hat9 hlt9 FF a0 z0 l0 HFin HG HNW HO
            go_wp2_with fail
            go_roundw
            case rel => exact ⟨i + 1, _, by omega, by go_num, X9⟩
            case measure => simp [intOf]; omega
      · have i1 : ¬ (i : Int) < (N : Int) := by omega
        obtain rfl : i = N := by omega
        have hkl := mkTo_len x4 X i
        obtain ⟨va, vk, rfl, g1, -⟩ := RowO.arg cham_len HM.out.row
        have G1 := Lib.hid g1
        have HB := Lib.hid HM.out.bel
        rw [hkl] at HM
        have e0 : wr.cell? ⟨w.heap.size + 2, 0, none⟩ = some (.slice va i vk) := by have := box_cell HM.out.tool 0 _ rfl; exact this
        have e1 : wr.cell? ⟨w.heap.size + 2, 1, none⟩ = some (.int .i64 (1 + p0)) := box_cell HM.out.tool 1 _ rfl
        have e2 : wr.cell? ⟨w.heap.size + 2, 2, none⟩ = some (.int .i64 (1 + p1)) := box_cell HM.out.tool 2 _ rfl
        have e3 : wr.cell? ⟨w.heap.size + 2, 3, none⟩ = some (.int .i64 p2) := box_cell HM.out.tool 3 _ rfl
        have e4 : wr.cell? ⟨w.heap.size + 2, 4, none⟩ = some (.int .i64 (1 + p3)) := box_cell HM.out.tool 4 _ rfl
        have r0 : wr.cell? ⟨w.heap.size + 1, 0, none⟩ = some (.slice none 0 0) := box_cell HM.out.res 0 _ rfl
        have r1 : wr.cell? ⟨w.heap.size + 1, 1, none⟩ = some (.int .i64 0) := box_cell HM.out.res 1 _ rfl
        have r2 : wr.cell? ⟨w.heap.size + 1, 2, none⟩ = some (.int .i64 0) := box_cell HM.out.res 2 _ rfl
        have r3 : wr.cell? ⟨w.heap.size + 1, 3, none⟩ = some (.int .i64 0) := box_cell HM.out.res 3 _ rfl
        have r4 : wr.cell? ⟨w.heap.size + 1, 4, none⟩ = some (.int .i64 0) := box_cell HM.out.res 4 _ rfl
        have f0 := box_fz HM.out.res 0; have f1 := box_fz HM.out.res 1; have f2 := box_fz HM.out.res 2; have f3 := box_fz HM.out.res 3; have f4 := box_fz HM.out.res 4
        have lr : w.heap.size + 1 < wr.heap.size := lt_of_block HM.out.res
        have hown := Lib.hid HM.out.row
        have HFin := Lib.hid (show ∀ W, wr.grownBy W (some (w.heap.size + 1)) → ChA W va vk (mkTo x4 X i) ∧ Below w.heap.size w W from fun W hg => by
          have hc : Ch (fun i => i = w.heap.size + 1) wr W := Ch.grown hg (fun i e => by injection e with e; exact e.symm)
          exact ⟨G1.out.ch hc (fun x hx => by subst hx; have := (hown.out.lt x.block rfl).1; omega), HB.out.grown hg HB.out.size (fun i e => by injection e with e; omega)⟩)
        clear HM g1
        go_wp2_with fail
        have hg := grown_trans (grown_trans (grown_trans (grown_trans (grown_set (w := wr) (w.heap.size + 1) 0 (.slice va i vk)) (grown_set _ 1 (.int .i64 (1 + p0)))) (grown_set _ 2 (.int .i64 (1 + p1)))) (grown_set _ 3 (.int .i64 p2))) (grown_set _ 4 (.int .i64 (1 + p3)))
        obtain ⟨k1, k2⟩ := HFin.out _ hg
        refine bodyPost_ret (v := .agg #[.slice va i vk, .int .i64 (1 + p0), .int .i64 (1 + p1), .int .i64 p2, .int .i64 (1 + p3)]) (by simp [results, Try.results13, go_sem, r0, r1, r2, r3, r4]) rfl ?_
        rw [HE.out]
        exact ⟨va, vk, by show _ = Ending.returned (Value.agg #[.slice va (mkTo x4 X i).length vk, .int .i64 (1 + p0), .int .i64 (1 + p1), .int .i64 p2, .int .i64 (1 + p3)]); rw [hkl], k1, k2⟩
end Go.Proofs.Ytiolmcnngpaapaa
