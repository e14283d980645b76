/-
  A row of steps in memory; contract of validSteps.
-/
import Derived.Test.YtcaclijkkbhfhaaGreatDoorVStep
namespace Go.Proofs.YtcaclijkkbhfhaaGreatDoor
open Go.RowKit

/-- The cells of a step at a place. -/
structure StepP.At (w : World) (b o : Nat) (p : StepP) : Prop where
  c0 : w.cell? ⟨b, o, none⟩ = some (.int .i64 p.s.recipe)
  c1 : w.cell? ⟨b, o + 1, none⟩ = some (.slice p.ta p.s.tools.length p.tc)
  c2 : w.cell? ⟨b, o + 2, none⟩ = some (.int .i64 p.s.least)
  c3 : w.cell? ⟨b, o + 3, none⟩ = some (.int .i64 p.s.most)
  c4 : w.cell? ⟨b, o + 4, none⟩ = some (.slice p.na p.s.next.length p.nc)
  c5 : w.cell? ⟨b, o + 5, none⟩ = some (.int .i64 p.s.back)
  c6 : w.cell? ⟨b, o + 6, none⟩ = some (.int .i64 p.s.limit)
theorem StepP.At.below {w w' : World} {b o : Nat} {p : StepP} (h : p.At w b o) (hb : Below w.heap.size w w') : p.At w' b o :=
  ⟨cell_below hb h.c0, cell_below hb h.c1, cell_below hb h.c2, cell_below hb h.c3, cell_below hb h.c4, cell_below hb h.c5, cell_below hb h.c6⟩
/-- A slice of steps that reads as P. -/
def StepsA (w : World) (a : Option Addr) (c : Nat) (P : List StepP) : Prop :=
  P.length ≤ c ∧ c ≤ maxLen ∧ ∀ i (h : i < P.length), ∃ b off : Nat, a = some ⟨b, off, none⟩ ∧ b < w.heap.size ∧ P[i].At w b (off + i * 7) ∧ P[i].ok w
theorem StepsA.below {w w' : World} {a : Option Addr} {c : Nat} {P : List StepP} (h : StepsA w a c P) (hb : Below w.heap.size w w') : StepsA w' a c P := by
  refine ⟨h.1, h.2.1, fun i hi => ?_⟩
  obtain ⟨b, off, rfl, h1, h2, h3⟩ := h.2.2 i hi
  exact ⟨b, off, rfl, Nat.lt_of_lt_of_le h1 hb.size, h2.below hb, h3.below hb⟩
theorem StepsA.nil (w : World) : StepsA w none 0 [] := ⟨Nat.le_refl _, by decide, fun i hi => by cases hi⟩
/-- The steps themselves. -/
abbrev stepsOf (P : List StepP) : List Fl.Step := P.map (·.s)
theorem all_drop (count : Int) (P : List StepP) (i : Nat) (h : i < P.length) : (stepsOf (P.drop i)).all (Fl.vStep count) = (Fl.vStep count P[i].s && (stepsOf (P.drop (i + 1))).all (Fl.vStep count)) := by
  rw [List.drop_eq_getElem_cons h]; rfl

set_option maxRecDepth 100000 in
set_option maxHeartbeats 1000000 in
theorem validSteps_any (P : List StepP) (count : Int) (a : Option Addr) (c : Nat) (w : World) (h : StepsA w a c P) (hc : P.length ≤ 40 → 0 ≤ count ∧ count ≤ 1000) :
    Calls Tryz.prog 30 #[.slice a P.length c, .int .i64 count] w fun e w' => e = .returned (.bool (Fl.vSteps count (stepsOf P))) ∧ Below w.heap.size w w' := by
  have hlen : P.length ≤ maxLen := Nat.le_trans h.1 h.2.1
  unfold maxLen at hlen
  have HA := Lib.hid h; clear h
  have HC := Lib.hid hc; clear hc
  by_cases h40 : P.length ≤ 40
  · have hE : Fl.vSteps count (stepsOf P) = (stepsOf P).all (Fl.vStep count) := by unfold Fl.vSteps; simp [h40]
    have HE := Lib.hid hE; clear hE
    go_enter Tryz.func30, Tryz.ntmps30
    go_wp2_with fail
    go_loopw [12] (fun i wr => ∃ k : Nat, k ≤ P.length ∧ i = .int .i64 (k : Int) ∧ Below w.heap.size w wr ∧ Hid ((stepsOf (P.drop k)).all (Fl.vStep count) = (stepsOf P).all (Fl.vStep count))) (fun i _ => P.length - (intOf i).toNat)
    case atStart => exact ⟨0, Nat.zero_le _, rfl, Below.refl _ _, Lib.hid rfl⟩
    case round =>
      obtain ⟨k, hk, rfl, hb, hh⟩ := hrel
      by_cases hlt : k < P.length
      · obtain ⟨b, off, rfl, hbb, h1, h2⟩ := (HA.out.below hb).2.2 k hlt
        have HE1 := Lib.hid (all_drop count P k hlt)
        generalize P[k] = p at *
        obtain ⟨B, eB⟩ : ∃ B, Fl.vStep count p.s = B := ⟨_, rfl⟩
        have hv := fun w' (hb : Below wr.heap.size wr w') => validStep_any p count w' (h2.below hb) (HC.out h40)
        rw [eB] at hv HE1
        have HV := Lib.hid hv
        have HB := Lib.hid hb
        obtain ⟨c0, c1, c2, c3, c4, c5, c6⟩ := h1
        clear hv h2 eB hb
        go_wp2_with fail
        refine (HV.out _ (below_new _ _)).mono ?_; rintro e w1 ⟨rfl, g1⟩
        have g2 := below_step HB.out (below_step (below_new _ _) g1)
        have G := Lib.hid g2; clear g1 g2
        cases B
        · go_wp2_with fail
          go_ret
          exact ⟨ret_bool (by rw [HE.out, ← hh.out, HE1.out]; rfl), G.out⟩
        · go_wp2_with fail
          go_roundw
          case rel => exact ⟨k + 1, by omega, by go_num, G.out, Lib.hid (by rw [← hh.out, HE1.out]; rfl)⟩
          case measure => simp [intOf]; omega
      · have HF := Lib.hid (show (stepsOf P).all (Fl.vStep count) = true by rw [← hh.out, List.drop_of_length_le (by omega)]; rfl)
        go_wp2_with fail
        go_ret
        exact ⟨ret_bool (by rw [HE.out, HF.out]), hb⟩
  · have hE : Fl.vSteps count (stepsOf P) = false := by unfold Fl.vSteps; simp [h40]
    have HE := Lib.hid hE; clear hE
    go_enter Tryz.func30, Tryz.ntmps30
    go_wp2_with fail
    go_ret
    exact ⟨ret_bool HE.out.symm, Below.refl _ _⟩
end Go.Proofs.YtcaclijkkbhfhaaGreatDoor
