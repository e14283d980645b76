/-
  The law file's own example plan, walked.
  SameScenario and the reference's Same answer true for what is equal. Written by tools/l09_sameyes.py.
-/
import Derived.Test.YtihohjgjklcnlaaDoorQBv
import Derived.Test.YtihohjgjklcnlaaDoorQBg
import Derived.Deep.LoopGhost
import Derived.Deep.DeepCutAuto
namespace Go.Proofs.YtihohjgjklcnlaaDoor
open Go.RowKit
/-- A block made in a world of known size, behind later ones. -/
theorem new_at (w : World) (o : Obj) (n : Nat) (h : w.heap.size = n) : (w.alloc o).heap[n]? = some o := by subst h; exact heap_alloc_new w o
theorem rowA_block {α : Type} {f : α → List Value} {k : Nat} (hf : ∀ x, (f x).length = k) {w : World} {g : Nat} {t : TypeId} {L : List α} {cs : Array Value} (h : w.heap[g]? = some (.cells cs t)) (hc : cs.toList = L.flatMap f) (hl : L.length ≤ 1000) : RowA f k w (some ⟨g, 0, none⟩) L.length L := by
  refine ⟨Nat.le_refl _, by unfold maxLen; omega, fun i hi => ⟨g, 0, rfl, lt_of_block h, fun j v hv => ?_⟩⟩
  have hj : j < k := by rw [← hf L[i]]; exact (List.getElem?_eq_some_iff.1 hv).1
  have := flat_at f k hf L i j hi hj
  rw [← hc] at this
  refine box_cell h _ _ ?_
  rw [← Array.getElem?_toList, show 0 + i * k + j = i * k + j by omega, this]; exact hv
abbrev exSt (en s0 : Int) : Obj := .cells #[.int .i64 10, .int .i64 20, .int .i64 1, .int .i64 5, .int .i64 2, .int .i64 s0, .int .i64 10, .int .i64 20, .int .i64 3, .int .i64 54, .int .i64 4, .int .i64 en] 45
abbrev exWn (limit : Int) : Obj := .cells #[.int .i64 0, .int .i64 1, .int .i64 limit] 49
/-- What example leaves. -/
def ExPost (limit : Int) (w : World) (e : Ending) (w' : World) : Prop := ∃ n m : Nat, w.heap.size ≤ n ∧ w.heap.size ≤ m ∧ e = .returned (PlanP.val ⟨Pl.ex9 limit, some ⟨n, 0, none⟩, 2, some ⟨m, 0, none⟩, 1⟩) ∧ w'.heap[n]? = some (exSt 78 29) ∧ w'.heap[m]? = some (exWn limit) ∧ Below w.heap.size w w'
set_option maxRecDepth 100000 in
set_option maxHeartbeats 2000000 in
theorem example_any (limit : Int) (w : World) : Calls Tryd.prog 28 #[.int .i64 limit] w (ExPost limit w) := by
  go_enter Tryd.func28, Tryd.ntmps28
  go_wp2_with fail
  obtain ⟨O0, hO0⟩ : ∃ O, O = Obj.cells #[.int .i64 0, .int .i64 1, .int .i64 5, .slice (some ⟨w.heap.size + 1, 0, none⟩) 2 2, .slice (some ⟨w.heap.size + 1 + 1, 0, none⟩) 1 1] 28 := ⟨_, rfl⟩
  rw [← hO0]
  obtain ⟨O3, hO3⟩ : ∃ O, O = Obj.cells #[.int .i64 10, .int .i64 20, .int .i64 1, .int .i64 5, .int .i64 2, .int .i64 29, .int .i64 10, .int .i64 20, .int .i64 3, .int .i64 54, .int .i64 4, .int .i64 78] 45 := ⟨_, rfl⟩
  obtain ⟨O4, hO4⟩ : ∃ O, O = Obj.cells #[.int .i64 0, .int .i64 1, .int .i64 limit] 49 := ⟨_, rfl⟩
  rw [← hO3, ← hO4]
  have h0 := box_below (box_below (heap_alloc_new w O0) (below_new _ O3)) (below_new _ O4)
  have h3 := box_below (new_at (w.alloc O0) O3 (w.heap.size + 1) (by simp)) (below_new _ O4)
  have h4 := new_at ((w.alloc O0).alloc O3) O4 (w.heap.size + 1 + 1) (by simp)
  have hb : Below w.heap.size w (((w.alloc O0).alloc O3).alloc O4) := below_step (below_step (below_new _ _) (below_new _ _)) (below_new _ _)
  generalize ((w.alloc O0).alloc O3).alloc O4 = W at *
  subst hO0 hO3 hO4
  have r0 := box_cell h0 0 _ rfl
  have r1 := box_cell h0 1 _ rfl
  have r2 := box_cell h0 2 _ rfl
  have r3 := box_cell h0 3 _ rfl
  have r4 := box_cell h0 4 _ rfl
  refine bodyPost_ret (v := PlanP.val ⟨Pl.ex9 limit, some ⟨w.heap.size + 1, 0, none⟩, 2, some ⟨w.heap.size + 1 + 1, 0, none⟩, 1⟩) (by simp [results, Tryd.results28, go_sem, r0, r1, r2, r3, r4, Pl.ex9]) rfl ?_
  exact ⟨_, _, by omega, by omega, rfl, h3, h4, hb⟩
theorem ex_ok {w : World} {n m : Nat} {limit s0 : Int} (h1 : w.heap[n]? = some (exSt 78 s0)) (h2 : w.heap[m]? = some (exWn limit)) :
    PlanP.ok ⟨⟨0, 1, 5, [⟨10, 20, ⟨1, 5⟩, ⟨2, s0⟩⟩, ⟨10, 20, ⟨3, 54⟩, ⟨4, 78⟩⟩], [⟨0, 1, limit⟩]⟩, some ⟨n, 0, none⟩, 2, some ⟨m, 0, none⟩, 1⟩ w :=
  ⟨rowA_block (L := [⟨10, 20, ⟨1, 5⟩, ⟨2, s0⟩⟩, ⟨10, 20, ⟨3, 54⟩, ⟨4, 78⟩⟩]) stage_len h1 rfl (by simp), rowA_block (L := [⟨0, 1, limit⟩]) win_len h2 rfl (by simp)⟩
end Go.Proofs.YtihohjgjklcnlaaDoor

namespace Go.Proofs.YtihohjgjklcnlaaDoor
open Go.RowKit
attribute [local go_sem] Oper.semAt_some
theorem cell0 {w : World} {b off i k j : Nat} {v : Value} (h : w.cell? ⟨b, off + i * k + j, none⟩ = some v) (hk : k = 1) (hj : j = 0) : w.cell? ⟨b, off + i, none⟩ = some v := by
  subst hk; subst hj; simpa using h
set_option maxRecDepth 100000 in
set_option maxHeartbeats 2000000 in
theorem SameScen_yes (s : Pl.Scen) (da ma db mb : Option Addr) (dc mc dd md : Nat) (w : World) (h : ScenP.ok ⟨s, da, dc, ma, mc⟩ w) (hr : ScenP.ok ⟨s, db, dd, mb, md⟩ w) :
    Calls Tryd.prog 29 #[ScenP.val ⟨s, da, dc, ma, mc⟩, ScenP.val ⟨s, db, dd, mb, md⟩] w fun e w' => e = .returned (.bool true) ∧ Below w.heap.size w w' := by
  have hb1 := below_new w (scenObj ⟨s, da, dc, ma, mc⟩)
  have hb2 := below_new (w.alloc (scenObj ⟨s, da, dc, ma, mc⟩)) (scenObj ⟨s, db, dd, mb, md⟩)
  have HQ := Lib.hid ((h.below hb1).below hb2)
  have HR := Lib.hid ((hr.below hb1).below hb2)
  have BL := Lib.hid (below_step hb1 hb2)
  have A1 := Lib.hid (box_below (heap_alloc_new w (scenObj ⟨s, da, dc, ma, mc⟩)) hb2)
  have B1 := heap_alloc_new (w.alloc (scenObj ⟨s, da, dc, ma, mc⟩)) (scenObj ⟨s, db, dd, mb, md⟩)
  rw [show (w.alloc (scenObj ⟨s, da, dc, ma, mc⟩)).heap.size = w.heap.size + 1 by simp] at B1
  have B1 := Lib.hid B1
  clear hb1 hb2 h hr
  obtain ⟨D, M, de, tl, at0⟩ := s
  dsimp only [scenObj] at HQ HR BL A1 B1
  go_enter Tryd.func29, Tryd.ntmps29
  go_upto_region 1 with (fail)
  generalize (w.alloc (.cells #[.slice da D.length dc, .slice ma M.length mc, .int .i64 de, .int .i64 tl, .int .i64 at0] 32)).alloc (.cells #[.slice db D.length dd, .slice mb M.length md, .int .i64 de, .int .i64 tl, .int .i64 at0] 32) = w2 at *
  have a0 := box_cell A1.out 0 (.slice da D.length dc) rfl
  have a1 := box_cell A1.out 1 (.slice ma M.length mc) rfl
  have b0 := box_cell B1.out 0 (.slice db D.length dd) rfl
  have b1 := box_cell B1.out 1 (.slice mb M.length md) rfl
  have n1 : ((D.length : Int) != (D.length : Int)) = false := by simp
  have n2 : ((M.length : Int) != (M.length : Int)) = false := by simp
  go_wp2_with fail
  clear n1 n2 a0 a1 b0 b1
  have HW1 := Lib.hid (Below.refl w2.heap.size w2)
  have hx0 := box_cell A1.out 0 (.slice da D.length dc) rfl
  have hy0 := box_cell B1.out 0 (.slice db D.length dd) rfl
  go_loopg [5] D.length (fun g iv wr => ∃ k : Nat, k ≤ D.length ∧ g = D.length - k ∧ iv = .int .i64 (k : Int) ∧ Hid (Below w2.heap.size w2 wr))
  case atStart => exact ⟨0, by omega, by omega, rfl, HW1⟩
  case round =>
    obtain ⟨k, hk, rfl, rfl, HB1⟩ := hrel
    rename World => wr
    have a0 := cell_below HB1.out hx0
    have b0 := cell_below HB1.out hy0
    have hmx : D.length ≤ 9223372036854775807 := HQ.out.du.len
    by_cases hlt : k < D.length
    · obtain ⟨b1, o1, rfl, hb1, hc1⟩ := (HQ.out.du.below HB1.out).at (show 0 < D.length by omega)
      obtain ⟨b2, o2, rfl, hb2, hc2⟩ := (HR.out.du.below HB1.out).at (show 0 < D.length by omega)
      have s0 := cell0 (hc1 k hlt 0 (.int .i64 D[k]) rfl) rfl rfl
      have t0 := cell0 (hc2 k hlt 0 (.int .i64 D[k]) rfl) rfl rfl
      have i1 : (0 : Int) ≤ (k : Int) := by omega
      have i2 : (k : Int) < (D.length : Int) := by omega
      have i4 : ((k : Int)).toNat = k := by omega
      clear hc1 hc2
      generalize D[k] = x at *
      go_upto_region 6 with (fail)
      go_cut [40] (fun tt wx => tt = .bool false ∧ ∃ n, wx = wr.drewN n)
      case first =>
        go_quiet (fail)
        go_wp2_with fail
        go_meet
        exact ⟨rfl, _, rfl⟩
      case rest =>
      obtain ⟨rfl, nq, rfl⟩ := hcut
      have HB' := Lib.hid (below_drewN HB1.out nq)
      clear s0 t0 a0 b0
      go_wp2_with fail
      go_roundg (D.length - (k + 1))
      case rel => exact ⟨k + 1, by omega, rfl, by go_num, HB'⟩
      case measure => omega
    · have i5 : ¬ (k : Int) < (D.length : Int) := by omega
      clear HW1
      have HW2 := HB1
      have hx1 := box_cell A1.out 1 (.slice ma M.length mc) rfl
      have hy1 := box_cell B1.out 1 (.slice mb M.length md) rfl
      clear HB1
      go_wp2_with fail
      rename World => wo
      go_loopg [6] M.length (fun g iv wr => ∃ k : Nat, k ≤ M.length ∧ g = M.length - k ∧ iv = .int .i64 (k : Int) ∧ Hid (Below w2.heap.size w2 wr))
      case atStart => exact ⟨0, by omega, by omega, rfl, HW2⟩
      case round =>
        obtain ⟨k, hk, rfl, rfl, HB2⟩ := hrel
        rename World => wr
        have a0 := cell_below HB2.out hx1
        have b0 := cell_below HB2.out hy1
        have hmx : M.length ≤ 9223372036854775807 := HQ.out.mv.len
        by_cases hlt : k < M.length
        · obtain ⟨b1, o1, rfl, hb1, hc1⟩ := (HQ.out.mv.below HB2.out).at (show 0 < M.length by omega)
          obtain ⟨b2, o2, rfl, hb2, hc2⟩ := (HR.out.mv.below HB2.out).at (show 0 < M.length by omega)
          have s0 := cell0 (hc1 k hlt 0 (.int .i64 M[k]) rfl) rfl rfl
          have t0 := cell0 (hc2 k hlt 0 (.int .i64 M[k]) rfl) rfl rfl
          have i1 : (0 : Int) ≤ (k : Int) := by omega
          have i2 : (k : Int) < (M.length : Int) := by omega
          have i4 : ((k : Int)).toNat = k := by omega
          clear hc1 hc2
          generalize M[k] = x at *
          go_upto_region 11 with (fail)
          go_cut [58] (fun tt wx => tt = .bool false ∧ ∃ n, wx = wr.drewN n)
          case first =>
            go_quiet (fail)
            go_wp2_with fail
            go_meet
            exact ⟨rfl, _, rfl⟩
          case rest =>
          obtain ⟨rfl, nq, rfl⟩ := hcut
          have HB' := Lib.hid (below_drewN HB2.out nq)
          clear s0 t0 a0 b0
          go_wp2_with fail
          go_roundg (M.length - (k + 1))
          case rel => exact ⟨k + 1, by omega, rfl, by go_num, HB'⟩
          case measure => omega
        · have i5 : ¬ (k : Int) < (M.length : Int) := by omega
          have a2 := cell_below HB2.out (box_cell A1.out 2 (.int .i64 de) rfl)
          have a3 := cell_below HB2.out (box_cell A1.out 3 (.int .i64 tl) rfl)
          have a4 := cell_below HB2.out (box_cell A1.out 4 (.int .i64 at0) rfl)
          have b2 := cell_below HB2.out (box_cell B1.out 2 (.int .i64 de) rfl)
          have b3 := cell_below HB2.out (box_cell B1.out 3 (.int .i64 tl) rfl)
          have b4 := cell_below HB2.out (box_cell B1.out 4 (.int .i64 at0) rfl)
          have FIN := Lib.hid (BL.out.trans (HB2.out.mono BL.out.size))
          go_wp2_with fail
          go_ret
          exact ⟨rfl, FIN.out⟩
set_option maxRecDepth 100000 in
set_option maxHeartbeats 2000000 in
theorem refSame_yes (p : Pl.Plan) (sa wa sb wb : Option Addr) (sc wc sd wd : Nat) (w : World) (h : PlanP.ok ⟨p, sa, sc, wa, wc⟩ w) (hr : PlanP.ok ⟨p, sb, sd, wb, wd⟩ w) :
    Calls Tryd.prog 30 #[PlanP.val ⟨p, sa, sc, wa, wc⟩, PlanP.val ⟨p, sb, sd, wb, wd⟩] w fun e w' => e = .returned (.bool true) ∧ Below w.heap.size w w' := by
  have hb1 := below_new w (planObj ⟨p, sa, sc, wa, wc⟩)
  have hb2 := below_new (w.alloc (planObj ⟨p, sa, sc, wa, wc⟩)) (planObj ⟨p, sb, sd, wb, wd⟩)
  have HQ := Lib.hid ((h.below hb1).below hb2)
  have HR := Lib.hid ((hr.below hb1).below hb2)
  have BL := Lib.hid (below_step hb1 hb2)
  have A1 := Lib.hid (box_below (heap_alloc_new w (planObj ⟨p, sa, sc, wa, wc⟩)) hb2)
  have B1 := heap_alloc_new (w.alloc (planObj ⟨p, sa, sc, wa, wc⟩)) (planObj ⟨p, sb, sd, wb, wd⟩)
  rw [show (w.alloc (planObj ⟨p, sa, sc, wa, wc⟩)).heap.size = w.heap.size + 1 by simp] at B1
  have B1 := Lib.hid B1
  clear hb1 hb2 h hr
  obtain ⟨en, mi, mx, D, M⟩ := p
  dsimp only [planObj] at HQ HR BL A1 B1
  go_enter Tryd.func30, Tryd.ntmps30
  go_upto_region 1 with (fail)
  generalize (w.alloc (.cells #[.int .i64 en, .int .i64 mi, .int .i64 mx, .slice sa D.length sc, .slice wa M.length wc] 28)).alloc (.cells #[.int .i64 en, .int .i64 mi, .int .i64 mx, .slice sb D.length sd, .slice wb M.length wd] 28) = w2 at *
  have a0 := box_cell A1.out 0 (.int .i64 en) rfl
  have a1 := box_cell A1.out 1 (.int .i64 mi) rfl
  have a2 := box_cell A1.out 2 (.int .i64 mx) rfl
  have a3 := box_cell A1.out 3 (.slice sa D.length sc) rfl
  have a4 := box_cell A1.out 4 (.slice wa M.length wc) rfl
  have b0 := box_cell B1.out 0 (.int .i64 en) rfl
  have b1 := box_cell B1.out 1 (.int .i64 mi) rfl
  have b2 := box_cell B1.out 2 (.int .i64 mx) rfl
  have b3 := box_cell B1.out 3 (.slice sb D.length sd) rfl
  have b4 := box_cell B1.out 4 (.slice wb M.length wd) rfl
  have n1 : ((D.length : Int) != (D.length : Int)) = false := by simp
  have n2 : ((M.length : Int) != (M.length : Int)) = false := by simp
  have n3 : (en != en) = false := by simp
  have n4 : (mi != mi) = false := by simp
  have n5 : (mx != mx) = false := by simp
  go_wp2_with fail
  clear n1 n2 n3 n4 n5 a0 a1 a2 a3 a4 b0 b1 b2 b3 b4
  have HW1 := Lib.hid (Below.refl w2.heap.size w2)
  have hx0 := box_cell A1.out 3 (.slice sa D.length sc) rfl
  have hy0 := box_cell B1.out 3 (.slice sb D.length sd) rfl
  go_loopg [5] D.length (fun g iv wr => ∃ k : Nat, k ≤ D.length ∧ g = D.length - k ∧ iv = .int .i64 (k : Int) ∧ Hid (Below w2.heap.size w2 wr))
  case atStart => exact ⟨0, by omega, by omega, rfl, HW1⟩
  case round =>
    obtain ⟨k, hk, rfl, rfl, HB1⟩ := hrel
    rename World => wr
    have a0 := cell_below HB1.out hx0
    have b0 := cell_below HB1.out hy0
    have hmx : D.length ≤ 9223372036854775807 := HQ.out.st.len
    by_cases hlt : k < D.length
    · obtain ⟨b1, o1, rfl, hb1, hc1⟩ := (HQ.out.st.below HB1.out).at (show 0 < D.length by omega)
      obtain ⟨b2, o2, rfl, hb2, hc2⟩ := (HR.out.st.below HB1.out).at (show 0 < D.length by omega)
      have s0 := hc1 k hlt 0 (.int .i64 D[k].mn) rfl
      have t0 := hc2 k hlt 0 (.int .i64 D[k].mn) rfl
      have s1 := hc1 k hlt 1 (.int .i64 D[k].mx) rfl
      have t1 := hc2 k hlt 1 (.int .i64 D[k].mx) rfl
      have s2 := hc1 k hlt 2 (.int .i64 D[k].m.tool) rfl
      have t2 := hc2 k hlt 2 (.int .i64 D[k].m.tool) rfl
      have s3 := hc1 k hlt 3 (.int .i64 D[k].m.start) rfl
      have t3 := hc2 k hlt 3 (.int .i64 D[k].m.start) rfl
      have s4 := hc1 k hlt 4 (.int .i64 D[k].s.tool) rfl
      have t4 := hc2 k hlt 4 (.int .i64 D[k].s.tool) rfl
      have s5 := hc1 k hlt 5 (.int .i64 D[k].s.start) rfl
      have t5 := hc2 k hlt 5 (.int .i64 D[k].s.start) rfl
      simp only [Nat.add_zero] at s0 t0
      have i1 : (0 : Int) ≤ (k : Int) := by omega
      have i2 : (k : Int) < (D.length : Int) := by omega
      have i4 : ((k : Int)).toNat = k := by omega
      clear hc1 hc2
      generalize D[k] = x at *
      go_upto_region 6 with (fail)
      go_cut [61] (fun tt wx => tt = .bool false ∧ ∃ n, wx = wr.drewN n)
      case first =>
        go_quiet (fail)
        go_wp2_with fail
        go_meet
        exact ⟨rfl, _, rfl⟩
      case rest =>
      obtain ⟨rfl, nq, rfl⟩ := hcut
      have HB' := Lib.hid (below_drewN HB1.out nq)
      clear s0 t0 a0 b0
      go_wp2_with fail
      go_roundg (D.length - (k + 1))
      case rel => exact ⟨k + 1, by omega, rfl, by go_num, HB'⟩
      case measure => omega
    · have i5 : ¬ (k : Int) < (D.length : Int) := by omega
      clear HW1
      have HW2 := HB1
      have hx1 := box_cell A1.out 4 (.slice wa M.length wc) rfl
      have hy1 := box_cell B1.out 4 (.slice wb M.length wd) rfl
      clear HB1
      go_wp2_with fail
      rename World => wo
      go_loopg [6] M.length (fun g iv wr => ∃ k : Nat, k ≤ M.length ∧ g = M.length - k ∧ iv = .int .i64 (k : Int) ∧ Hid (Below w2.heap.size w2 wr))
      case atStart => exact ⟨0, by omega, by omega, rfl, HW2⟩
      case round =>
        obtain ⟨k, hk, rfl, rfl, HB2⟩ := hrel
        rename World => wr
        have a0 := cell_below HB2.out hx1
        have b0 := cell_below HB2.out hy1
        have hmx : M.length ≤ 9223372036854775807 := HQ.out.wn.len
        by_cases hlt : k < M.length
        · obtain ⟨b1, o1, rfl, hb1, hc1⟩ := (HQ.out.wn.below HB2.out).at (show 0 < M.length by omega)
          obtain ⟨b2, o2, rfl, hb2, hc2⟩ := (HR.out.wn.below HB2.out).at (show 0 < M.length by omega)
          have s0 := hc1 k hlt 0 (.int .i64 M[k].f) rfl
          have t0 := hc2 k hlt 0 (.int .i64 M[k].f) rfl
          have s1 := hc1 k hlt 1 (.int .i64 M[k].t) rfl
          have t1 := hc2 k hlt 1 (.int .i64 M[k].t) rfl
          have s2 := hc1 k hlt 2 (.int .i64 M[k].lim) rfl
          have t2 := hc2 k hlt 2 (.int .i64 M[k].lim) rfl
          simp only [Nat.add_zero] at s0 t0
          have i1 : (0 : Int) ≤ (k : Int) := by omega
          have i2 : (k : Int) < (M.length : Int) := by omega
          have i4 : ((k : Int)).toNat = k := by omega
          clear hc1 hc2
          generalize M[k] = x at *
          go_upto_region 11 with (fail)
          go_cut [79] (fun tt wx => tt = .bool false ∧ ∃ n, wx = wr.drewN n)
          case first =>
            go_quiet (fail)
            go_wp2_with fail
            go_meet
            exact ⟨rfl, _, rfl⟩
          case rest =>
          obtain ⟨rfl, nq, rfl⟩ := hcut
          have HB' := Lib.hid (below_drewN HB2.out nq)
          clear s0 t0 a0 b0
          go_wp2_with fail
          go_roundg (M.length - (k + 1))
          case rel => exact ⟨k + 1, by omega, rfl, by go_num, HB'⟩
          case measure => omega
        · have i5 : ¬ (k : Int) < (M.length : Int) := by omega
          have FIN := Lib.hid (BL.out.trans (HB2.out.mono BL.out.size))
          go_wp2_with fail
          go_ret
          exact ⟨rfl, FIN.out⟩
end Go.Proofs.YtihohjgjklcnlaaDoor
