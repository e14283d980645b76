/-
  Contracts of validStep and validSteps.
-/
import Derived.Test.YtcaclijkkbhfhaaGreatDoorStep
namespace Go.Proofs.YtcaclijkkbhfhaaGreatDoor
open Go.RowKit

set_option maxRecDepth 100000 in
set_option maxHeartbeats 1000000 in
theorem validStep_any (p : StepP) (count : Int) (w : World) (hp : p.ok w) (hc : 0 ≤ count ∧ count ≤ 1000) :
    Calls Tryz.prog 50 #[p.v, .int .i64 count] w fun e w' => e = .returned (.bool (Fl.vStep count p.s)) ∧ Below w.heap.size w w' := by
  have hR := fun w => validRework_any p count w hc
  obtain ⟨s, ta, tc, na, nc⟩ := p
  obtain ⟨t1, t2⟩ := hp
  have tl1 : s.tools.length ≤ maxLen := Nat.le_trans t1.1 t1.2.1
  have nl1 : s.next.length ≤ maxLen := Nat.le_trans t2.1 t2.2.1
  unfold maxLen at tl1 nl1
  obtain ⟨B1, e1⟩ : ∃ B, Fl.within s.recipe 1 1000000 = B := ⟨_, rfl⟩
  obtain ⟨B2, e2⟩ : ∃ B, Fl.within s.tools.length 1 8 = B := ⟨_, rfl⟩
  obtain ⟨B3, e3⟩ : ∃ B, Fl.asc 60 (-1) s.tools = B := ⟨_, rfl⟩
  obtain ⟨B4, e4⟩ : ∃ B, Fl.within s.least 1 s.most = B := ⟨_, rfl⟩
  obtain ⟨B7, e7⟩ : ∃ B, Fl.asc count (-1) s.next = B := ⟨_, rfl⟩
  obtain ⟨B8, e8⟩ : ∃ B, Fl.vRework s.back s.limit count = B := ⟨_, rfl⟩
  have c1 := fun w => within_any s.recipe 1 1000000 w
  have c2 := fun w => within_any s.tools.length 1 8 w
  have c3 := fun w' (hb : Below w.heap.size w w') => ascending_any s.tools 60 ta tc w' (t1.below hb)
  have c4 := fun w => within_any s.least 1 s.most w
  have c7 := fun w' (hb : Below w.heap.size w w') => ascending_any s.next count na nc w' (t2.below hb)
  rw [e1] at c1; rw [e2] at c2; rw [e3] at c3; rw [e4] at c4; rw [e7] at c7; simp only at hR; rw [e8] at hR
  have C1 := Lib.hid c1; have C2 := Lib.hid c2; have C3 := Lib.hid c3; have C4 := Lib.hid c4; have C7 := Lib.hid c7; have C8 := Lib.hid hR
  have E : Hid (Fl.vStep count s = (B1 && B2 && B3 && B4 && decide (s.most ≤ 10000) && decide (s.next.length ≤ 4) && B7 && B8)) := Lib.hid (by unfold Fl.vStep; rw [e1, e2, e3, e4, e7, e8])
  have hb0 := below_new w (.cells #[.int .i64 s.recipe, .slice ta s.tools.length tc, .int .i64 s.least, .int .i64 s.most, .slice na s.next.length nc, .int .i64 s.back, .int .i64 s.limit] 55)
  have HB := Lib.hid hb0
  clear c1 c2 c3 c4 c7 e1 e2 e3 e4 e7 e8 hR t1 t2 hb0 hc
  unfold StepP.v
  simp only
  unfold StepP.v at C8
  simp only at C8
  obtain ⟨recipe, tools, least, most, next, back, limit⟩ := s
  simp only at *
  go_enter Tryz.func50, Tryz.ntmps50
  go_wp2_with fail
  refine (C1.out _).mono ?_; rintro e w1 ⟨rfl, rfl⟩
  cases B1
  · go_wp2_with fail
    go_ret
    exact ⟨ret_bool (by rw [E.out]; simp), HB.out⟩
  · go_wp2_with fail
    refine (C2.out _).mono ?_; rintro e w1 ⟨rfl, rfl⟩
    cases B2
    · go_wp2_with fail
      go_ret
      exact ⟨ret_bool (by rw [E.out]; simp), HB.out⟩
    · go_wp2_with fail
      refine (C3.out _ HB.out).mono ?_; rintro e w1 ⟨rfl, rfl⟩
      cases B3
      · go_wp2_with fail
        go_ret
        exact ⟨ret_bool (by rw [E.out]; simp), HB.out⟩
      · go_wp2_with fail
        refine (C4.out _).mono ?_; rintro e w1 ⟨rfl, rfl⟩
        cases B4
        · go_wp2_with fail
          go_ret
          exact ⟨ret_bool (by rw [E.out]; simp), HB.out⟩
        · by_cases h5 : most ≤ 10000
          · by_cases h6 : next.length ≤ 4
            · go_wp2_with fail
              refine (C7.out _ HB.out).mono ?_; rintro e w1 ⟨rfl, rfl⟩
              cases B7
              · go_wp2_with fail
                go_ret
                exact ⟨ret_bool (by rw [E.out]; simp), HB.out⟩
              · go_wp2_with fail
                refine (C8.out _).mono ?_; rintro e w1 ⟨rfl, hb1⟩
                have H1 := Lib.hid (below_step HB.out hb1)
                clear hb1
                go_wp2_with fail
                go_ret
                exact ⟨ret_bool (by rw [E.out]; simp [h5, h6]), H1.out⟩
            · have h6' : decide (next.length ≤ 4) = false := by simpa using h6
              go_wp2_with fail
              go_ret
              exact ⟨ret_bool (by rw [E.out, h6']; simp), HB.out⟩
          · have h5' : decide (most ≤ 10000) = false := by simpa using h5
            go_wp2_with fail
            go_ret
            exact ⟨ret_bool (by rw [E.out, h5']; simp), HB.out⟩
end Go.Proofs.YtcaclijkkbhfhaaGreatDoor
