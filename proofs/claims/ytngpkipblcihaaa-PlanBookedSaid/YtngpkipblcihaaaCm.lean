/-
  Contracts of cmp.Compare and cmp.Or at integers, and of compareWindows.
-/
import Derived.Test.YtngpkipblcihaaaPs
import Derived.StillTailTactics
namespace Go.Proofs.Ytngpkipblcihaaa
open Go.RowKit

def cmpI (x y : Int) : Int := if x < y then -1 else if y < x then 1 else 0
theorem cmpI_lt {x y : Int} (h : x < y) : cmpI x y = -1 := by unfold cmpI; rw [if_pos h]
theorem cmpI_gt {x y : Int} (h : y < x) : cmpI x y = 1 := by unfold cmpI; rw [if_neg (by omega), if_pos h]
theorem cmpI_eq (x : Int) : cmpI x x = 0 := by unfold cmpI; rw [if_neg (by omega), if_neg (by omega)]
theorem cmpCompare_any (x y : Int) (w : World) : Calls Try.prog 61 #[.int .i64 x, .int .i64 y] w fun e w' => e = .returned (.int .i64 (cmpI x y)) ∧ w = w' := by
  rcases Int.lt_trichotomy x y with h | rfl | h
  · rw [cmpI_lt h]
    go_enter Try.func61, Try.ntmps61
    go_wp2
    go_ret
    exact ⟨rfl, rfl⟩
  · rw [cmpI_eq]
    go_enter Try.func61, Try.ntmps61
    go_wp2
    go_ret
    exact ⟨rfl, rfl⟩
  · have h' : ¬ x < y := by omega
    rw [cmpI_gt h]
    go_enter Try.func61, Try.ntmps61
    go_wp2
    go_ret
    exact ⟨rfl, rfl⟩

/-- The first number that is not zero, or zero. -/
def orI : List Int → Int
  | [] => 0
  | x :: l => if x = 0 then orI l else x
set_option maxHeartbeats 1000000 in
theorem cmpOr_any (L : List Int) (a : Option Addr) (c : Nat) (w : World) (h : IntsA w a c L) :
    Calls Try.prog 60 #[.slice a L.length c] w fun e w' => e = .returned (.int .i64 (orI L)) ∧ w = w' := by
  have hlen : L.length ≤ maxLen := Nat.le_trans h.1 h.2.1
  unfold maxLen at hlen
  have HA := Lib.hid h; clear h
  go_enter Try.func60, Try.ntmps60
  go_wp2_with fail
  go_loop [8] (fun i => ∃ k : Nat, k ≤ L.length ∧ i = .int .i64 (k : Int) ∧ Hid (orI (L.drop k) = orI L)) (fun i => L.length - (intOf i).toNat)
  case atStart => exact ⟨0, Nat.zero_le _, rfl, Lib.hid rfl⟩
  case round =>
    obtain ⟨k, hk, rfl, hh⟩ := hrel
    by_cases hlt : k < L.length
    · obtain ⟨b, off, rfl, hb, hc⟩ := HA.out.at (by omega)
      have c0 : w.cell? ⟨b, off + k, none⟩ = some (.int .i64 L[k]) := by simpa using hc k hlt 0 _ rfl
      have HE := Lib.hid (show orI (L.drop k) = if L[k] = 0 then orI (L.drop (k + 1)) else L[k] by rw [List.drop_eq_getElem_cons hlt, orI])
      clear hc
      generalize L[k] = x at *
      by_cases h1 : x = 0
      · have HN := Lib.hid (show orI (L.drop (k + 1)) = orI L by rw [← hh.out, HE.out, if_pos h1])
        have hx : (x != 0) = false := by simp [h1]
        clear h1
        go_wp2_with fail
        go_round
        case rel => exact ⟨k + 1, by omega, by go_num, HN⟩
        case measure => simp [intOf]; omega
      · have HF := Lib.hid (show orI L = x by rw [← hh.out, HE.out, if_neg h1])
        have hx : (x != 0) = true := by simp [h1]
        clear h1
        go_wp2_with fail
        go_ret
        exact ⟨ret_int HF.out.symm, rfl⟩
    · have HF := Lib.hid (show orI L = 0 by rw [← hh.out, List.drop_of_length_le (by omega)]; rfl)
      go_wp2_with fail
      go_ret
      exact ⟨ret_int HF.out.symm, rfl⟩

def cmpW (v u : Pl.Win) : Int := orI [cmpI v.f u.f, cmpI v.t u.t]
theorem cmpW_ahead (v u : Pl.Win) : decide (0 ≤ cmpW v u) = !Pl.before v u := by
  unfold cmpW Pl.before orI orI orI cmpI
  rw [Bool.eq_iff_iff]
  simp only [decide_eq_true_eq, Bool.not_eq_true', Bool.or_eq_false_iff, decide_eq_false_iff_not, Bool.and_eq_false_iff]
  repeat' split
  all_goals omega
theorem ints_lit2 (w : World) (x y : Int) : IntsA (w.alloc (.cells #[.int .i64 x, .int .i64 y] 3)) (some ⟨w.heap.size, 0, none⟩) 2 [x, y] := by
  refine ⟨Nat.le_refl _, by decide, fun i hi => ⟨w.heap.size, 0, rfl, by simp, fun j v hv => ?_⟩⟩
  have hb := heap_alloc_new w (.cells #[.int .i64 x, .int .i64 y] 3)
  rcases i with _ | _ | i
  · rcases j with _ | j
    · injection hv with hv; subst hv; exact box_cell hb 0 _ rfl
    · simp [intCells] at hv
  · rcases j with _ | j
    · injection hv with hv; subst hv; exact box_cell hb 1 _ rfl
    · simp [intCells] at hv
  · simp at hi; omega

set_option maxRecDepth 100000 in
set_option maxHeartbeats 1000000 in
theorem compareWindows_any (v u : Pl.Win) (w : World) :
    Calls Try.prog 58 #[winV v, winV u] w fun e w' => e = .returned (.int .i64 (cmpW v u)) ∧ Below w.heap.size w w' := by
  have h1 := fun w => (cmpCompare_any v.f u.f w).mono (fun _ _ ⟨he, hw⟩ => (⟨he, hw.symm⟩ : _ ∧ _))
  have h2 := fun w => (cmpCompare_any v.t u.t w).mono (fun _ _ ⟨he, hw⟩ => (⟨he, hw.symm⟩ : _ ∧ _))
  have H1 := Lib.hid h1; have H2 := Lib.hid h2
  have h3 := fun w a c hA => cmpOr_any [cmpI v.f u.f, cmpI v.t u.t] a c w hA
  have H3 := Lib.hid h3
  unfold cmpW
  clear h1 h2 h3
  obtain ⟨x1, x2, x3⟩ := v; obtain ⟨y1, y2, y3⟩ := u
  simp only at *
  generalize cmpI x1 y1 = c1 at *; generalize cmpI x2 y2 = c2 at *
  go_enter Try.func58, Try.ntmps58
  go_wp2_with fail
  obtain ⟨W, hW⟩ : ∃ W, W = (w.alloc (.cells #[.int .i64 x1, .int .i64 x2, .int .i64 x3] 47)).alloc (.cells #[.int .i64 y1, .int .i64 y2, .int .i64 y3] 47) := ⟨_, rfl⟩
  rw [← hW]
  have f0 : W.cell? ⟨w.heap.size, 0, none⟩ = some (.int .i64 x1) := by rw [hW]; simp [go_sem]
  have f1 : W.cell? ⟨w.heap.size, 1, none⟩ = some (.int .i64 x2) := by rw [hW]; simp [go_sem]
  have f2 : W.cell? ⟨w.heap.size + 1, 0, none⟩ = some (.int .i64 y1) := by rw [hW]; simp [go_sem]
  have f3 : W.cell? ⟨w.heap.size + 1, 1, none⟩ = some (.int .i64 y2) := by rw [hW]; simp [go_sem]
  have HB := Lib.hid (show Below w.heap.size w W by rw [hW]; exact below_step (below_new _ _) (below_new _ _))
  clear hW
  go_still_tail 10, (by kernel_rfl)
  still_call (H1.out _)
  repeat still_step
  still_call (H2.out _)
  refine wpStill_nil ?_
  change wpList _ _ _ _ _ W.drew
  go_wp2_with fail
  refine (H3.out _ _ _ ((ints_lit2 W c1 c2).below (Below.refl _ _).drew)).mono ?_; rintro e w1 ⟨rfl, rfl⟩
  go_wp2_with fail
  go_ret
  exact ⟨rfl, (below_step HB.out (below_new _ _)).drew⟩
end Go.Proofs.Ytngpkipblcihaaa
