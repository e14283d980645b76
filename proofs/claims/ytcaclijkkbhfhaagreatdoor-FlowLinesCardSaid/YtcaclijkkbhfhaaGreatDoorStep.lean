/-
  A step in memory; contracts of validMoves, validRework and validStep.
-/
import Derived.Test.YtcaclijkkbhfhaaGreatDoorMem
namespace Go.Proofs.YtcaclijkkbhfhaaGreatDoor
open Go.RowKit

/-- A step and where its two lists lie. -/
structure StepP where
  s : Fl.Step
  ta : Option Addr
  tc : Nat
  na : Option Addr
  nc : Nat
abbrev StepP.v (p : StepP) : Value := .agg #[.int .i64 p.s.recipe, .slice p.ta p.s.tools.length p.tc, .int .i64 p.s.least, .int .i64 p.s.most, .slice p.na p.s.next.length p.nc, .int .i64 p.s.back, .int .i64 p.s.limit]
def StepP.ok (w : World) (p : StepP) : Prop := IntA w p.ta p.tc p.s.tools ∧ IntA w p.na p.nc p.s.next
theorem StepP.ok.below {w w' : World} {p : StepP} (h : p.ok w) (hb : Below w.heap.size w w') : p.ok w' := ⟨h.1.below hb, h.2.below hb⟩

set_option maxRecDepth 100000 in
theorem validMoves_any (mn mx : Int) (sv wv : Value) (w : World) :
    Calls Tryz.prog 29 #[.agg #[.int .i64 mn, .int .i64 mx, sv, wv]] w fun e w' => e = .returned (.bool (Fl.vMoves mn mx)) ∧ Below w.heap.size w w' := by
  have HW := Lib.hid (fun w => within_any mn 0 mx w)
  by_cases h1 : Fl.within mn 0 mx = true
  · have hv : decide (mx ≤ 10000) = Fl.vMoves mn mx := by unfold Fl.vMoves; simp [h1]
    have HV := Lib.hid hv; have H1 := Lib.hid h1; clear hv h1
    go_enter Tryz.func29, Tryz.ntmps29
    go_wp2_with fail
    refine (HW.out _).mono ?_; rintro e w1 ⟨rfl, rfl⟩
    rw [H1.out]
    go_wp2_with fail
    go_ret
    exact ⟨ret_bool HV.out, below_new _ _⟩
  · have h1' : Fl.within mn 0 mx = false := by simpa using h1
    have hv : Fl.vMoves mn mx = false := by unfold Fl.vMoves; simp [h1']
    have HV := Lib.hid hv; have H1 := Lib.hid h1'; clear hv h1 h1'
    go_enter Tryz.func29, Tryz.ntmps29
    go_wp2_with fail
    refine (HW.out _).mono ?_; rintro e w1 ⟨rfl, rfl⟩
    rw [H1.out]
    go_wp2_with fail
    go_ret
    exact ⟨ret_bool HV.out.symm, below_new _ _⟩

set_option maxRecDepth 100000 in
theorem validRework_any (p : StepP) (count : Int) (w : World) (hc : 0 ≤ count ∧ count ≤ 1000) :
    Calls Tryz.prog 69 #[p.v, .int .i64 count] w fun e w' => e = .returned (.bool (Fl.vRework p.s.back p.s.limit count)) ∧ Below w.heap.size w w' := by
  obtain ⟨c1, c2⟩ := hc
  obtain ⟨⟨rc, tl, mn, mx, nx, back, limit⟩, ta, tc, na, nc⟩ := p
  unfold StepP.v
  simp only
  have HW := Lib.hid (fun w => within_any back 0 (count - 1) w)
  have HX := Lib.hid (fun w => within_any limit 1 9 w)
  by_cases h0 : back = -1
  · have hv : decide (limit = 0) = Fl.vRework back limit count := by unfold Fl.vRework; simp [h0]
    have hb : (back == -1) = true := by simp [h0]
    have HV := Lib.hid hv; clear hv h0
    go_enter Tryz.func69, Tryz.ntmps69
    go_wp2_with fail
    go_ret
    exact ⟨ret_bool (by rw [← HV.out, Bool.eq_iff_iff]; simp), below_new _ _⟩
  · have hb : (back == -1) = false := by simp [h0]
    by_cases h1 : Fl.within back 0 (count - 1) = true
    · have hv : Fl.within limit 1 9 = Fl.vRework back limit count := by unfold Fl.vRework; simp [h0, h1]
      have HV := Lib.hid hv; have H1 := Lib.hid h1; clear hv h0 h1
      go_enter Tryz.func69, Tryz.ntmps69
      go_wp2_with fail
      refine (HW.out _).mono ?_; rintro e w1 ⟨rfl, rfl⟩
      rw [H1.out]
      go_wp2_with fail
      refine (HX.out _).mono ?_; rintro e w1 ⟨rfl, rfl⟩
      go_wp2_with fail
      go_ret
      exact ⟨ret_bool HV.out, below_new _ _⟩
    · have h1' : Fl.within back 0 (count - 1) = false := by simpa using h1
      have hv : Fl.vRework back limit count = false := by unfold Fl.vRework; simp [h0, h1']
      have HV := Lib.hid hv; have H1 := Lib.hid h1'; clear hv h1 h1' h0
      go_enter Tryz.func69, Tryz.ntmps69
      go_wp2_with fail
      refine (HW.out _).mono ?_; rintro e w1 ⟨rfl, rfl⟩
      rw [H1.out]
      go_wp2_with fail
      go_ret
      exact ⟨ret_bool HV.out.symm, below_new _ _⟩
end Go.Proofs.YtcaclijkkbhfhaaGreatDoor
