/-
  A flow in memory; contract of Valid.
-/
import Derived.Test.YtcaclijkkbhfhaaGreatDoorVWin
namespace Go.Proofs.YtcaclijkkbhfhaaGreatDoor
open Go.RowKit

/-- A flow and where its lists lie. -/
structure FlowP where
  least : Int
  most : Int
  sa : Option Addr
  sc : Nat
  P : List StepP
  wa : Option Addr
  wc : Nat
  W : List Fl.Win
abbrev FlowP.v (q : FlowP) : Value := .agg #[.int .i64 q.least, .int .i64 q.most, .slice q.sa q.P.length q.sc, .slice q.wa q.W.length q.wc]
def FlowP.f (q : FlowP) : Fl.Flow := ⟨q.least, q.most, stepsOf q.P, q.W⟩
def FlowP.ok (w : World) (q : FlowP) : Prop := StepsA w q.sa q.sc q.P ∧ WinsA w q.wa q.wc q.W
theorem FlowP.ok.below {w w' : World} {q : FlowP} (h : q.ok w) (hb : Below w.heap.size w w') : q.ok w' := ⟨h.1.below hb, h.2.below hb⟩

/-- The cells of a flow's box. -/
structure FlowBox (w : World) (b o : Nat) (q : FlowP) : Prop where
  lt : b < w.heap.size
  c0 : w.cell? ⟨b, o, none⟩ = some (.int .i64 q.least)
  c1 : w.cell? ⟨b, o + 1, none⟩ = some (.int .i64 q.most)
  c2 : w.cell? ⟨b, o + 2, none⟩ = some (.slice q.sa q.P.length q.sc)
  c3 : w.cell? ⟨b, o + 3, none⟩ = some (.slice q.wa q.W.length q.wc)
theorem FlowBox.below {w w' : World} {b o : Nat} {q : FlowP} (h : FlowBox w b o q) (hb : Below w.heap.size w w') : FlowBox w' b o q :=
  ⟨Nat.lt_of_lt_of_le h.lt hb.size, cell_below hb h.c0, cell_below hb h.c1, cell_below hb h.c2, cell_below hb h.c3⟩
theorem FlowBox.new (w : World) (q : FlowP) : FlowBox (w.alloc (.cells #[.int .i64 q.least, .int .i64 q.most, .slice q.sa q.P.length q.sc, .slice q.wa q.W.length q.wc] 25)) w.heap.size 0 q :=
  ⟨by simp, by simp [go_sem], by simp [go_sem], by simp [go_sem], by simp [go_sem]⟩
theorem stepsOf_length (P : List StepP) : (stepsOf P).length = P.length := by simp

set_option maxRecDepth 100000 in
set_option maxHeartbeats 1000000 in
theorem Valid_any (q : FlowP) (w : World) (h : q.ok w) :
    Calls Tryz.prog 13 #[q.v] w fun e w' => e = .returned (.bool (Fl.valid q.f)) ∧ Below w.heap.size w w' := by
  have hl1 : q.P.length ≤ maxLen := Nat.le_trans h.1.1 h.1.2.1
  have hl2 : q.W.length ≤ maxLen := Nat.le_trans h.2.1 h.2.2.1
  unfold maxLen at hl1 hl2
  obtain ⟨B1, e1⟩ : ∃ B, Fl.vMoves q.least q.most = B := ⟨_, rfl⟩
  obtain ⟨B3, e3⟩ : ∃ B, Fl.vSteps q.P.length (stepsOf q.P) = B := ⟨_, rfl⟩
  obtain ⟨B4, e4⟩ : ∃ B, Fl.vWins q.P.length q.W = B := ⟨_, rfl⟩
  have k1 := fun w => validMoves_any q.least q.most (.slice q.sa q.P.length q.sc) (.slice q.wa q.W.length q.wc) w
  have k3 := fun w' (hb : Below w.heap.size w w') => validSteps_any q.P q.P.length q.sa q.sc w' (h.1.below hb) (fun h => by omega)
  have k4 := fun w' (hb : Below w.heap.size w w') (h40 : q.P.length ≤ 40) => validWindows_any q.W q.P.length q.wa q.wc w' (h.2.below hb) (by omega)
  have h40 : B3 = true → q.P.length ≤ 40 := by rintro rfl; unfold Fl.vSteps at e3; simp at e3; exact e3.1
  have H40 := Lib.hid h40
  rw [e1] at k1; rw [e3] at k3; rw [e4] at k4
  have C1 := Lib.hid k1; have C3 := Lib.hid k3; have C4 := Lib.hid k4
  have E : Hid (Fl.valid q.f = (B1 && decide (0 < q.P.length) && B3 && B4)) := Lib.hid (by unfold Fl.valid FlowP.f; simp only [stepsOf_length]; rw [e1, e3, e4])
  have F0 := Lib.hid (FlowBox.new w q)
  have L0 := Lib.hid (below_new w (.cells #[.int .i64 q.least, .int .i64 q.most, .slice q.sa q.P.length q.sc, .slice q.wa q.W.length q.wc] 25))
  clear k1 k3 k4 e1 e3 e4 h h40
  unfold FlowP.v
  go_enter Tryz.func13, Tryz.ntmps13
  go_wp2_with fail
  refine (C1.out _).mono ?_; rintro e w1 ⟨rfl, g1⟩
  have F1 := Lib.hid (F0.out.below g1); have L1 := Lib.hid (below_step L0.out g1)
  clear g1 L0 F0
  obtain ⟨-, c0, c1, c2, c3⟩ := F1.out
  cases B1
  · go_wp2_with fail
    go_ret
    exact ⟨ret_bool (by rw [E.out]; simp), L1.out⟩
  · by_cases hp : 0 < q.P.length
    · have hp' : decide ((0 : Int) < (q.P.length : Int)) = true := decide_eq_true (by omega)
      go_wp2_with fail
      clear c0 c1 c2 c3
      refine (C3.out _ L1.out).mono ?_; rintro e w2 ⟨rfl, g2⟩
      have F2 := Lib.hid (F1.out.below g2); have L2 := Lib.hid (below_step L1.out g2)
      clear g2 L1 F1
      obtain ⟨-, c0, c1, c2, c3⟩ := F2.out
      cases B3
      · go_wp2_with fail
        go_ret
        exact ⟨ret_bool (by rw [E.out]; simp), L2.out⟩
      · go_wp2_with fail
        clear c0 c1 c2 c3
        refine (C4.out _ L2.out (H40.out (by simp))).mono ?_; rintro e w3 ⟨rfl, g3⟩
        have L3 := Lib.hid (below_step L2.out g3)
        clear g3
        go_wp2_with fail
        go_ret
        exact ⟨ret_bool (by rw [E.out]; simp [hp]), L3.out⟩
    · have hp' : decide ((0 : Int) < (q.P.length : Int)) = false := decide_eq_false (by omega)
      go_wp2_with fail
      go_ret
      exact ⟨ret_bool (by rw [E.out]; simp [hp]), L1.out⟩
end Go.Proofs.YtcaclijkkbhfhaaGreatDoor
