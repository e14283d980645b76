/-
  Contracts of package plan's small functions.
-/
import Derived.Test.YtngpkipblcihaaaPb
namespace Go.Proofs.Ytngpkipblcihaaa
open Go.RowKit

theorem within_any (n a b : Int) (w : World) : Calls Try.prog 36 #[.int .i64 n, .int .i64 a, .int .i64 b] w fun e w' => e = .returned (.bool (Pl.within n a b)) ∧ w = w' := by
  unfold Pl.within
  by_cases h1 : a ≤ n
  · go_enter Try.func36, Try.ntmps36
    go_wp2
    go_ret
    exact ⟨by simp [h1], rfl⟩
  · go_enter Try.func36, Try.ntmps36
    go_wp2
    go_ret
    exact ⟨by simp; omega, rfl⟩
theorem pisTool_any (t : Int) (w : World) : Calls Try.prog 55 #[.int .i64 t] w fun e w' => e = .returned (.bool (Pl.isTool t)) ∧ w = w' := by
  unfold Pl.isTool
  go_enter Try.func55, Try.ntmps55
  go_wp2_with fail
  refine (within_any _ _ _ _).mono ?_; rintro _ w1 ⟨rfl, rfl⟩
  go_wp2_with fail
  go_ret
  exact ⟨rfl, rfl⟩
theorem validSlot_any (s : Pl.Slot) (d : Int) (w : World) (hd : 0 ≤ d ∧ d ≤ 1000000) : Calls Try.prog 59 #[slotV s, .int .i64 d] w fun e w' => e = .returned (.bool (Pl.okSlot s d)) ∧ Below w.heap.size w w' := by
  unfold Pl.okSlot
  obtain ⟨t, x⟩ := s
  have HT := Lib.hid (pisTool_any t)
  have HW := Lib.hid (within_any x 0 (1000000 - d))
  generalize Pl.isTool t = V at *
  generalize Pl.within x 0 (1000000 - d) = U at *
  have e1 : IntKind.i64.wrap (1000000 - d) = 1000000 - d := IntWalk.i64_in _ (by omega)
  cases V
  · go_enter Try.func59, Try.ntmps59
    go_wp2_with fail
    refine (HT.out _).mono ?_; rintro _ w1 ⟨rfl, rfl⟩
    go_wp2_with fail
    go_ret
    exact ⟨by simp, below_new _ _⟩
  · go_enter Try.func59, Try.ntmps59
    go_wp2_with fail
    refine (HT.out _).mono ?_; rintro _ w1 ⟨rfl, rfl⟩
    go_wp2_with fail
    refine (HW.out _).mono ?_; rintro _ w1 ⟨rfl, rfl⟩
    go_wp2_with fail
    go_ret
    exact ⟨by simp, below_new _ _⟩
theorem box_below {w w' : World} {X : Nat} {o : Obj} (h : w.heap[X]? = some o) (hb : Below w.heap.size w w') : w'.heap[X]? = some o := (hb.block X (lt_of_block h)).trans h
abbrev stageObj (x : Pl.Stage) : Obj := .cells #[.int .i64 x.mn, .int .i64 x.mx, .int .i64 x.m.tool, .int .i64 x.m.start, .int .i64 x.s.tool, .int .i64 x.s.start] 45
set_option maxRecDepth 100000 in
theorem validStage_any (x : Pl.Stage) (w : World) : Calls Try.prog 56 #[stageV x] w fun e w' => e = .returned (.bool (Pl.okStage x)) ∧ Below w.heap.size w w' := by
  unfold Pl.okStage
  obtain ⟨mn, mx, ⟨mt, ms⟩, ⟨st, ss⟩⟩ := x
  have hb1 : Pl.within mn 1 mx = true → 1 ≤ mn ∧ mn ≤ mx := fun h => Pl.within_iff.1 h
  have HW := Lib.hid (within_any mn 1 mx)
  have HA := Lib.hid (fun hd => fun w => validSlot_any ⟨mt, ms⟩ mx w hd)
  have HB := Lib.hid (fun hd => fun w => validSlot_any ⟨st, ss⟩ mx w hd)
  have HN := Lib.hid (heap_alloc_new w (stageObj ⟨mn, mx, ⟨mt, ms⟩, ⟨st, ss⟩⟩))
  have HG := Lib.hid (below_new w (stageObj ⟨mn, mx, ⟨mt, ms⟩, ⟨st, ss⟩⟩))
  simp only
  generalize Pl.within mn 1 mx = U at *
  generalize Pl.okSlot ⟨mt, ms⟩ mx = V at *
  generalize Pl.okSlot ⟨st, ss⟩ mx = Q at *
  cases U
  · clear hb1 HA HB
    go_enter Try.func56, Try.ntmps56
    go_wp2_with fail
    refine (HW.out _).mono ?_; rintro _ w1 ⟨rfl, rfl⟩
    go_wp2_with fail
    go_ret
    exact ⟨by simp, HG.out⟩
  · obtain ⟨h1, h2⟩ := hb1 rfl
    by_cases h3 : mx ≤ 10000
    · by_cases h4 : mt = st
      · subst h4
        clear HA HB
        go_enter Try.func56, Try.ntmps56
        go_wp2_with fail
        refine (HW.out _).mono ?_; rintro _ w1 ⟨rfl, rfl⟩
        go_wp2_with fail
        go_ret
        exact ⟨by simp, HG.out⟩
      · have HA := Lib.hid (HA.out (by omega))
        have HB := Lib.hid (HB.out (by omega))
        have h4' : (mt != st) = true := by simp [h4]
        have H4 := Lib.hid h4
        clear h4
        cases V
        · go_enter Try.func56, Try.ntmps56
          go_wp2_with fail
          refine (HW.out _).mono ?_; rintro _ w1 ⟨rfl, rfl⟩
          go_wp2_with fail
          refine (HA.out _).mono ?_; rintro _ w1 ⟨rfl, g1⟩
          have G1 := Lib.hid g1; clear g1
          go_wp2_with fail
          go_ret
          exact ⟨by simp, below_step HG.out G1.out⟩
        · go_enter Try.func56, Try.ntmps56
          go_wp2_with fail
          refine (HW.out _).mono ?_; rintro _ w1 ⟨rfl, rfl⟩
          go_wp2_with fail
          refine (HA.out _).mono ?_; rintro _ w1 ⟨rfl, g1⟩
          have HM := box_below HN.out g1
          have c1 := box_cell HM 1 _ rfl
          have c4 := box_cell HM 4 _ rfl
          have c5 := box_cell HM 5 _ rfl
          have G1 := Lib.hid g1; clear g1 HM
          go_wp2_with fail
          refine (HB.out _).mono ?_; rintro _ w2 ⟨rfl, g2⟩
          have G2 := Lib.hid g2; clear g2
          go_wp2_with fail
          go_ret
          exact ⟨by simp [H4.out, h3], below_step (below_step HG.out G1.out) G2.out⟩
    · clear HA HB
      go_enter Try.func56, Try.ntmps56
      go_wp2_with fail
      refine (HW.out _).mono ?_; rintro _ w1 ⟨rfl, rfl⟩
      go_wp2_with fail
      go_ret
      exact ⟨by simp; intros; omega, HG.out⟩
theorem validWindow_any (x : Pl.Win) (n : Nat) (w : World) : Calls Try.prog 57 #[winV x, .int .i64 n] w fun e w' => e = .returned (.bool (Pl.okWin n x)) ∧ Below w.heap.size w w' := by
  unfold Pl.okWin
  obtain ⟨f, t, l⟩ := x
  have HW := Lib.hid (within_any l 0 1000000)
  have HG := Lib.hid (below_new w (.cells #[.int .i64 f, .int .i64 t, .int .i64 l] 47))
  simp only
  generalize Pl.within l 0 1000000 = U at *
  by_cases h1 : 0 ≤ f
  · by_cases h2 : f < t
    · by_cases h3 : t < n
      · go_enter Try.func57, Try.ntmps57
        go_wp2_with fail
        refine (HW.out _).mono ?_; rintro _ w1 ⟨rfl, rfl⟩
        go_wp2_with fail
        go_ret
        exact ⟨by simp; omega, HG.out⟩
      · go_enter Try.func57, Try.ntmps57
        go_wp2_with fail
        go_ret
        exact ⟨by simp; intros; omega, HG.out⟩
    · go_enter Try.func57, Try.ntmps57
      go_wp2_with fail
      go_ret
      exact ⟨by simp; intros; omega, HG.out⟩
  · go_enter Try.func57, Try.ntmps57
    go_wp2_with fail
    go_ret
    exact ⟨by simp; intros; omega, HG.out⟩
end Go.Proofs.Ytngpkipblcihaaa
