/-
  The statements' arcs, as integers determine them.
-/
import Derived.Test.YtkabjecdbkbpaaaPq
import Derived.Deep.LoopGhost
import Derived.Deep.AppendLies
import Derived.Deep.RegionLawGrows
import Derived.Deep.RegionLaw
import Derived.Deep.RegionHeld3
namespace Go.Proofs.Ytkabjecdbkbpaaa
open Go.RowKit Cy

def mkA (n : Int) (plain : Bool) (y : List Int) : Arc :=
  ⟨pickZ (y.getD 0 0) n, pickZ (y.getD 1 0) n, if plain then pickZ (y.getD 2 0) 41 else pickZ (y.getD 2 0) 61 - 20, if plain then pickZ (y.getD 3 0) 2 else pickZ (y.getD 3 0) 4 - 1⟩
def arcsTo (X : List (List Int)) (n : Int) (plain : Bool) (k : Nat) : List Arc := (X.take k).map (mkA n plain)
def arcsL (X : List (List Int)) (n : Int) (plain : Bool) : List Arc := arcsTo X n plain 20
theorem arcsTo_succ (X : List (List Int)) (n : Int) (plain : Bool) {k : Nat} (h : k < X.length) : arcsTo X n plain (k + 1) = arcsTo X n plain k ++ [mkA n plain X[k]] := by
  unfold arcsTo; rw [List.take_add_one, List.map_append, List.getElem?_eq_getElem h]; rfl
theorem arcsTo_len (X : List (List Int)) (n : Int) (plain : Bool) {k : Nat} (h : k ≤ X.length) : (arcsTo X n plain k).length = k := by simp [arcsTo]; omega
theorem arcsL_is (X : List (List Int)) (n : Int) (plain : Bool) {k : Nat} (hk : k ≤ X.length) (hk2 : k ≤ 20) (h : k = X.length ∨ k = 20) : arcsL X n plain = arcsTo X n plain k := by
  unfold arcsL arcsTo
  rcases h with rfl | rfl
  · rw [List.take_of_length_le hk2, List.take_of_length_le (Nat.le_refl _)]
  · rfl
theorem mkA_ok {n : Int} (hn : 0 < n) (plain : Bool) (y : List Int) : okArc n (mkA n plain y) = true := by
  have h1 := pickZ_bd (c := y.getD 0 0) hn
  have h2 := pickZ_bd (c := y.getD 1 0) hn
  have h3 := pickZ_bd (c := y.getD 2 0) (n := 41) (by omega)
  have h4 := pickZ_bd (c := y.getD 2 0) (n := 61) (by omega)
  have h5 := pickZ_bd (c := y.getD 3 0) (n := 2) (by omega)
  have h6 := pickZ_bd (c := y.getD 3 0) (n := 4) (by omega)
  unfold mkA
  generalize pickZ (y.getD 0 0) n = a at *
  generalize pickZ (y.getD 1 0) n = b at *
  generalize pickZ (y.getD 2 0) 41 = c at *
  generalize pickZ (y.getD 2 0) 61 = d at *
  generalize pickZ (y.getD 3 0) 2 = e at *
  generalize pickZ (y.getD 3 0) 4 = f at *
  rw [okArc_iff]
  cases plain <;> simp only [Bool.false_eq_true, if_false, if_true] <;> omega
theorem arcsL_len (X : List (List Int)) (n : Int) (plain : Bool) : (arcsL X n plain).length ≤ 20 := by unfold arcsL arcsTo; simp; omega
theorem arcsL_ok {X : List (List Int)} {n : Int} {plain : Bool} (hn : 0 < n) : ∀ a ∈ arcsL X n plain, okArc n a = true := by
  intro a ha
  unfold arcsL arcsTo at ha
  obtain ⟨y, _, rfl⟩ := List.mem_map.1 ha
  exact mkA_ok hn plain y
theorem arcsL_valid {X : List (List Int)} {n : Int} {plain : Bool} (hn : 1 ≤ n ∧ n ≤ 32) : valid n (arcsL X n plain) = true :=
  valid_iff.2 ⟨hn, by have := arcsL_len X n plain; omega, arcsL_ok (by omega)⟩
/-- The arcs' row, as the call's own. -/
def ArcsPost (w : World) (L : List Arc) (e : Ending) (w' : World) : Prop := ∃ v, e = .returned v ∧ ArcO w' w.heap.size v L ∧ Below w.heap.size w w'
theorem block_cell {w : World} {b : Nat} {cs : Array Value} {t : TypeId} (h : w.heap[b]? = some (.cells cs t)) (o : Nat) (v : Value) (hv : cs[o]? = some v) : w.cell? ⟨b, o, none⟩ = some v := box_cell h o v hv

set_option maxRecDepth 100000 in
set_option maxHeartbeats 4000000 in
theorem arcs_any (X : List (List Int)) (n : Int) (hn : 0 < n ∧ n ≤ 1000000) (plain : Bool) (a : Option Addr) (c : Nat) (w : World) (h : ArrsA 4 w a c X) : Calls Try.prog 13 #[.slice a X.length c, .int .i64 n, .bool plain] w (ArcsPost w (arcsL X n plain)) := by
  unfold ArcsPost
  have hl := Nat.le_trans h.1 h.2.1
  unfold maxLen at hl
  have H := Lib.hid h
  obtain ⟨i0, hi, hz0, hz1, hz2⟩ := info_parts info_arc
  clear h
  go_enter Try.func13, Try.ntmps13
  go_wp2_with fail
  go_loopw [7, 8] (fun vv i wr => ∃ (k : Nat) (v : Value), k ≤ X.length ∧ k ≤ 20 ∧ i = .int .i64 (k : Int) ∧ v = vv ∧ Hid (ArcO wr w.heap.size v (arcsTo X n plain k)) ∧ Hid (Below w.heap.size w wr)) (fun _ i _ => 20 - (intOf i).toNat)
  case atStart => exact ⟨0, _, by omega, by omega, rfl, rfl, Lib.hid (RowO.nil _ _ _ _ _), Lib.hid (Below.refl _ _)⟩
  case round =>
    obtain ⟨k, v, hk, hk12, rfl, rfl, HV, HB⟩ := hrel
    by_cases hlt : k < X.length ∧ k < 20
    · obtain ⟨hlt, hlt12⟩ := hlt
      obtain ⟨b, off, rfl, hb1, hc0⟩ := H.out.2.2.2 k hlt
      have hc : ∀ (j : Nat) (v : Int), X[k][j]? = some v → wr.cell? ⟨b, off + k * 4 + j, none⟩ = some (.int .i64 v) := fun j v hv => (HB.out.cell (p := ⟨b, off + k * 4 + j, none⟩) hb1).trans (hc0 j v hv)
      clear hc0
      obtain ⟨hlen, hfit⟩ := (H.out).2.2.1 X[k] (List.getElem_mem hlt)
      have HS := Lib.hid (arcsTo_succ X n plain hlt)
      have hkl := arcsTo_len X n plain hk
      generalize X[k] = y at *
      match y, hlen with
      | [y0, y1, y2, y3], _ =>
        have x0 := hc 0 y0 rfl; have x1 := hc 1 y1 rfl; have x2 := hc 2 y2 rfl; have x3 := hc 3 y3 rfl
        have f0 := hfit y0 (by simp); have f1 := hfit y1 (by simp); have f2 := hfit y2 (by simp); have f3 := hfit y3 (by simp)
        have hm : mkA n plain [y0, y1, y2, y3] = ⟨pickZ y0 n, pickZ y1 n, if plain then pickZ y2 41 else pickZ y2 61 - 20, if plain then pickZ y3 2 else pickZ y3 4 - 1⟩ := rfl
        have P0 := Lib.hid (fun w => pick_any y0 n w f0 (by omega))
        have P1 := Lib.hid (fun w => pick_any y1 n w f1 (by omega))
        have P2 := Lib.hid (fun w => pick_any y2 61 w f2 (by omega))
        have P3 := Lib.hid (fun w => pick_any y3 4 w f3 (by omega))
        have P4 := Lib.hid (fun w => pick_any y2 41 w f2 (by omega))
        have P5 := Lib.hid (fun w => pick_any y3 2 w f3 (by omega))
        have b2 := pickZ_bd (c := y2) (n := 61) (by omega)
        have b3 := pickZ_bd (c := y3) (n := 4) (by omega)
        have k0 : (0 : Int) ≤ (k : Int) := by omega
        have k1 : (k : Int) < (X.length : Int) := by omega
        have k2 : (k : Int) < 20 := by omega
        rw [hm] at HS
        clear hc hfit hm f0 f1 f2 f3
        rw [Nat.add_zero] at x0
        generalize pickZ y0 n = p0 at *
        generalize pickZ y1 n = p1 at *
        generalize pickZ y2 61 = p2 at *
        generalize pickZ y3 4 = p3 at *
        generalize pickZ y2 41 = p4 at *
        generalize pickZ y3 2 = p5 at *
        have d2 : IntKind.i64.wrap (p2 - 20) = p2 - 20 := IntWalk.i64_in _ (by omega)
        have d3 : IntKind.i64.wrap (p3 - 1) = p3 - 1 := IntWalk.i64_in _ (by omega)
        have HKW := Lib.hid (fun (v : World) (hv : Below wr.heap.size wr v) => show v.cell? ⟨b, off + k * 4 + 2, none⟩ = some (.int .i64 y2) ∧ v.cell? ⟨b, off + k * 4 + 3, none⟩ = some (.int .i64 y3) from ⟨cell_below hv x2, cell_below hv x3⟩)
        have HK : Hid (∀ v, Below wr.heap.size wr v → v.cell? ⟨b, off + k * 4, none⟩ = some (.int .i64 y0) ∧ v.cell? ⟨b, off + k * 4 + 1, none⟩ = some (.int .i64 y1) ∧ v.cell? ⟨b, off + k * 4 + 2, none⟩ = some (.int .i64 y2) ∧ v.cell? ⟨b, off + k * 4 + 3, none⟩ = some (.int .i64 y3)) := Lib.hid fun v hv => ⟨cell_below hv x0, cell_below hv x1, cell_below hv x2, cell_below hv x3⟩
        go_upto_region 5 with (fail)
        go_cut [9] (fun s9 wx => s9 = .pointer (some ⟨wr.heap.size, 0, none⟩) ∧ Hid (wx = (wr.alloc (arcObj ⟨p0, p1, p2 - 20, p3 - 1⟩)).drew))
        case first =>
          go_region_held3 (fun w' => w'.cell? ⟨b, off + k * 4, none⟩ = some (.int .i64 y0) ∧ w'.cell? ⟨b, off + k * 4 + 1, none⟩ = some (.int .i64 y1) ∧ w'.cell? ⟨b, off + k * 4 + 2, none⟩ = some (.int .i64 y2) ∧ w'.cell? ⟨b, off + k * 4 + 3, none⟩ = some (.int .i64 y3)) (first | with_reducible exact HK.out _ (Below.refl _ _).drew | with_reducible exact HK.out _ (below_new _ _).drew)
            ((go_at_call 12; first | ((with_reducible refine (P0.out _).mono ?_); rintro _ _ ⟨rfl, rfl⟩) | ((with_reducible refine (P1.out _).mono ?_); rintro _ _ ⟨rfl, rfl⟩) | ((with_reducible refine (P2.out _).mono ?_); rintro _ _ ⟨rfl, rfl⟩) | ((with_reducible refine (P3.out _).mono ?_); rintro _ _ ⟨rfl, rfl⟩)))
          all_goals
            go_wp2_with fail
            go_meet
            exact ⟨rfl, Lib.hid rfl⟩
        case rest =>
          obtain ⟨rfl, HW1⟩ := hcut
          have HG0 := Lib.hid (show Below wr.heap.size wr wc by rw [HW1.out]; exact (below_new _ _).drew)
          have HX := Lib.hid (show wc.heap[wr.heap.size]? = some (arcObj ⟨p0, p1, p2 - 20, p3 - 1⟩) by rw [HW1.out]; exact heap_alloc_new _ _)
          have HSz := Lib.hid (show wc.heap.size = wr.heap.size + 1 by rw [HW1.out]; simp)
          clear HW1 HK x0 x1 x2 x3 d2 d3 P0 P1 P2 P3
          have hs := HB.out.size
          have HOv := Lib.hid (show wc.ownsRow w.heap.size 44 4 v k ((arcsTo X n plain k).flatMap arcCells) from by
            have := RowO.below HV.out HG0.out; unfold RowO at this; rw [hkl] at this; exact this)
          have HOr := Lib.hid (show wr.ownsRow w.heap.size 44 4 v k ((arcsTo X n plain k).flatMap arcCells) from by
            have : wr.ownsRow w.heap.size 44 4 v (arcsTo X n plain k).length ((arcsTo X n plain k).flatMap arcCells) := HV.out
            rw [hkl] at this; exact this)
          cases plain with
          | false =>
            have HXz := HX; have HGz := HG0; have HOz := HOv; have HSzz := HSz
            clear HKW P4 P5 HSz
            have HSq := Lib.hid (show arcsTo X n false (k + 1) = arcsTo X n false k ++ [⟨p0, p1, p2 - 20, p3 - 1⟩] from HS.out)
            have u0 := box_cell HXz.out 0 _ rfl
            have u1 := box_cell HXz.out 1 _ rfl
            have u2 := box_cell HXz.out 2 _ rfl
            have u3 := box_cell HXz.out 3 _ rfl
            have HOwn := Lib.hid (HOz.out.alloc (arcObj ⟨p0, p1, p2 - 20, p3 - 1⟩))
            have HNW := Lib.hid (World.news_of_block (w := wc.alloc (arcObj ⟨p0, p1, p2 - 20, p3 - 1⟩)) (B := wc.heap.size) (cs := #[.int .i64 (p0), .int .i64 (p1), .int .i64 (p2 - 20), .int .i64 (p3 - 1)]) (t := 44) (fr := (0, 0)) (heap_alloc_new wc _))
            have hbz := HGz.out.size
            clear HS HXz HX HG0 HOv HV
            go_wp2_with (at_builtin; refine wpList_append_own _ rfl _ _ 23 rfl w.heap.size 44 i0 _ 4 32 Try.underlying23 hi hz0 hz1 hz2 rfl (by decide) _ _ _ rfl HOwn.out ⟨wc.heap.size, 0, none⟩ 1 1 [.int .i64 (p0), .int .i64 (p1), .int .i64 (p2 - 20), .int .i64 (p3 - 1)] rfl rfl HNW.out ?c2 ?c3 ?c4 ?c5 ?_)
            case c2 => simp [Value.oneCell']
            case c3 => unfold maxLen; omega
            case c4 => omega
            case c5 => omega
            intro v' w3 hown' hgrow _
            have O3 := Lib.hid (show ArcO w3 w.heap.size v' (arcsTo X n false (k + 1)) by
              rw [HSq.out]
              refine RowO.snoc ?_
              rw [hkl]; exact hown')
            have G3 := Lib.hid (HB.out.trans ((((HGz.out.mono hs).alloc (by omega) (arcObj ⟨p0, p1, p2 - 20, p3 - 1⟩)).grown hgrow (by simp; omega) (fun kk e => (HOr.out.lt kk e).1))))
            clear hown' hgrow
            go_wp2_with fail
            go_roundw
            case rel => exact ⟨k + 1, _, by omega, by omega, by go_num, rfl, O3, G3⟩
            case measure => simp [intOf]; omega
          | true =>
            obtain ⟨z2, z3⟩ := HKW.out wc HG0.out
            have c2 := box_cell HX.out 2 _ rfl
            have e2 := box_fz HX.out 2
            clear HKW
            go_wp2_with fail
            refine (P4.out _).mono ?_
            rintro _ _ ⟨rfl, rfl⟩
            go_upto_region 8 with (fail)
            have HX2 := Lib.hid (block_set (o := 2) HX.out (.int .i64 p4))
            have HG2 := Lib.hid (HG0.out.grown (grown_set (w := wc) wr.heap.size 2 (.int .i64 p4)) (by have := HSz.out; omega) (fun kk e => by injection e with e; omega))
            have HO2 := Lib.hid (own_ch (S := fun i => i = wr.heap.size) HOv.out (Ch.grown (grown_set (w := wc) wr.heap.size 2 (.int .i64 p4)) (fun kk e => by injection e with e; exact e.symm)) (fun kk e h => by have := (HOr.out.lt kk e).2; omega))
            have HS2 := Lib.hid (show (wc.setCell ⟨wr.heap.size, 2, none⟩ (.int .i64 p4)).heap.size = wr.heap.size + 1 by rw [← HSz.out]; simp [World.setCell])
            have HZ4 := Lib.hid (show (wc.setCell ⟨wr.heap.size, 2, none⟩ (.int .i64 p4)).cell? ⟨b, off + k * 4 + 3, none⟩ = some (.int .i64 y3) from
              (grown_set (w := wc) wr.heap.size 2 (.int .i64 p4)).cell z3 (fun e => by have e2 : b = wr.heap.size := Option.some.inj e; omega))
            clear HX HG0 HOv HSz c2 e2 z2 z3
            generalize wc.setCell ⟨wr.heap.size, 2, none⟩ (.int .i64 p4) = wd at *
            have z4 := HZ4.out
            have c2 := box_cell HX2.out 3 _ rfl
            have e2 := box_fz HX2.out 3
            clear HZ4
            go_wp2_with fail
            refine (P5.out _).mono ?_
            rintro _ _ ⟨rfl, rfl⟩
            go_upto_region 9 with (fail)
            have HX := Lib.hid (block_set (o := 3) HX2.out (.int .i64 p5))
            have HG0 := Lib.hid (HG2.out.grown (grown_set (w := wd) wr.heap.size 3 (.int .i64 p5)) (by have := HS2.out; omega) (fun kk e => by injection e with e; omega))
            have HOv := Lib.hid (own_ch (S := fun i => i = wr.heap.size) HO2.out (Ch.grown (grown_set (w := wd) wr.heap.size 3 (.int .i64 p5)) (fun kk e => by injection e with e; exact e.symm)) (fun kk e h => by have := (HOr.out.lt kk e).2; omega))
            clear HX2 HG2 HO2 HS2 c2 e2 z4 P4 P5
            generalize wd.setCell ⟨wr.heap.size, 3, none⟩ (.int .i64 p5) = we at *
            have HXz := Lib.hid (show we.heap[wr.heap.size]? = some (arcObj ⟨p0, p1, p4, p5⟩) from HX.out)
            have HGz := HG0; have HOz := HOv
            have HSq := Lib.hid (show arcsTo X n true (k + 1) = arcsTo X n true k ++ [⟨p0, p1, p4, p5⟩] from HS.out)
            have u0 := box_cell HXz.out 0 _ rfl
            have u1 := box_cell HXz.out 1 _ rfl
            have u2 := box_cell HXz.out 2 _ rfl
            have u3 := box_cell HXz.out 3 _ rfl
            have HOwn := Lib.hid (HOz.out.alloc (arcObj ⟨p0, p1, p4, p5⟩))
            have HNW := Lib.hid (World.news_of_block (w := we.alloc (arcObj ⟨p0, p1, p4, p5⟩)) (B := we.heap.size) (cs := #[.int .i64 (p0), .int .i64 (p1), .int .i64 (p4), .int .i64 (p5)]) (t := 44) (fr := (0, 0)) (heap_alloc_new we _))
            have hbz := HGz.out.size
            clear HS HXz HX HG0 HOv HV
            go_wp2_with (at_builtin; refine wpList_append_own _ rfl _ _ 23 rfl w.heap.size 44 i0 _ 4 32 Try.underlying23 hi hz0 hz1 hz2 rfl (by decide) _ _ _ rfl HOwn.out ⟨we.heap.size, 0, none⟩ 1 1 [.int .i64 (p0), .int .i64 (p1), .int .i64 (p4), .int .i64 (p5)] rfl rfl HNW.out ?c2 ?c3 ?c4 ?c5 ?_)
            case c2 => simp [Value.oneCell']
            case c3 => unfold maxLen; omega
            case c4 => omega
            case c5 => omega
            intro v' w3 hown' hgrow _
            have O3 := Lib.hid (show ArcO w3 w.heap.size v' (arcsTo X n true (k + 1)) by
              rw [HSq.out]
              refine RowO.snoc ?_
              rw [hkl]; exact hown')
            have G3 := Lib.hid (HB.out.trans ((((HGz.out.mono hs).alloc (by omega) (arcObj ⟨p0, p1, p4, p5⟩)).grown hgrow (by simp; omega) (fun kk e => (HOr.out.lt kk e).1))))
            clear hown' hgrow
            go_wp2_with fail
            go_roundw
            case rel => exact ⟨k + 1, _, by omega, by omega, by go_num, rfl, O3, G3⟩
            case measure => simp [intOf]; omega
    · have HE : Hid (arcsL X n plain = arcsTo X n plain k) := Lib.hid (arcsL_is X n plain hk hk12 (by omega))
      by_cases h1 : k < X.length
      · have k1 : (k : Int) < (X.length : Int) := by omega
        have k2 : ¬ (k : Int) < 20 := by omega
        go_wp2_with fail
        go_ret
        exact ⟨_, rfl, by rw [HE.out]; exact HV.out, HB.out⟩
      · have k1 : ¬ (k : Int) < (X.length : Int) := by omega
        go_wp2_with fail
        go_ret
        exact ⟨_, rfl, by rw [HE.out]; exact HV.out, HB.out⟩
end Go.Proofs.Ytkabjecdbkbpaaa
