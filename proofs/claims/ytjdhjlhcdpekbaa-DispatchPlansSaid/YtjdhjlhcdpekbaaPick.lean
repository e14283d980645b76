/-
  dispatch's Pick.
-/
import Derived.Test.YtjdhjlhcdpekbaaOrd
import Derived.Test.YtjdhjlhcdpekbaaOff
import Derived.Laws.ResultCell
namespace Go.Proofs.Ytjdhjlhcdpekbaa
open Go.RowKit Go.Shelf Go.Sort Dsp

def fitsP (K : Kal.Kal) (t now r : Int) (j : Jb) : Bool := (decide (1 ≤ j.len) && decide (j.len ≤ 10000)) && decide (firstK K t now (lenP r j) = some now)
def pickP (K : Kal.Kal) (t now r : Int) (L : List Jb) : Option Jb := L.find? (fitsP K t now r)
abbrev zeroJ : Jb := ⟨0, 0, false, 0, 0, 0, 0⟩
def pickV (o : Option Jb) : Value := .tuple #[jbV (o.getD zeroJ), .bool o.isSome]
theorem find_none' {α : Type} {p : α → Bool} {L : List α} (h : ∀ i (hi : i < L.length), p L[i] = false) : L.find? p = none := by
  rw [List.find?_eq_none]; intro x hx; obtain ⟨i, hi, rfl⟩ := List.getElem_of_mem hx; simp [h i hi]
theorem find_at' {α : Type} {p : α → Bool} {L : List α} {k : Nat} (hk : k < L.length) (h : ∀ i (hi : i < L.length), i < k → p L[i] = false) (hp : p L[k] = true) : L.find? p = some L[k] := by
  induction L generalizing k with
  | nil => simp at hk
  | cons x L ih =>
    cases k with
    | zero => simp at hp; simp [hp]
    | succ k =>
      have h0 := h 0 (by simp) (by omega)
      simp only [List.getElem_cons_zero] at h0
      rw [List.find?_cons, h0]
      simp only [List.getElem_cons_succ] at hp ⊢
      exact ih (by simpa using hk) (fun i hi hlt => by have := h (i + 1) (by simpa using hi) (by omega); simpa using this) hp

set_option maxRecDepth 100000 in
set_option maxHeartbeats 2000000 in
theorem Pick_any {C : Nat} {K : Kal.Kal} {W w : World} (hC : CalIs C K W w) (tool now : Int) (rs : List Int) (ra : Option Addr) (rc : Nat) (r : Int) (l : List Jb) (a : Option Addr) (c : Nat) (hnow : Fits now) (hr : IntA w ra rc rs) (hrl : rs.length ≤ 1000) (hl : l.length < 20) (h : JbA w a c l) :
    Calls Try.prog 19 #[.pointer (some ⟨C, 0, none⟩), .int .i64 tool, .int .i64 now, .slice ra rs.length rc, .int .i64 r, .slice a l.length c] w fun e w' => e = .returned (pickV (pickP K tool now r (orderV rs r l))) ∧ Below w.heap.size w w' := by
  have B0 := Lib.hid (below_new w (.cells #[.int .i64 0, .int .i64 0, .bool false, .int .i64 0, .int .i64 0, .int .i64 0, .int .i64 0] 43))
  have HO := Lib.hid (Order_any rs ra rc r l a c _ (hr.below B0.out) hrl hl (h.below B0.out))
  have HCal := Lib.hid (hC.below B0.out)
  unfold NewJobs at HO
  have HL : Hid ((orderV rs r l).length ≤ 20) := Lib.hid (by
    unfold orderV; split
    · rw [order_len]; omega
    · simp)
  generalize orderV rs r l = L at *
  have HN := Lib.hid hnow
  clear hC hr h hrl hl hnow
  go_enter Try.func19, Try.ntmps19
  go_wp2_with fail
  refine HO.out.mono ?_
  rintro _ w1 ⟨v, rfl, o1, b1⟩
  obtain ⟨a1, c1, rfl, ha1, -⟩ := o1.arg
  have HA := Lib.hid ha1; have B1 := Lib.hid b1
  have hLl := HL.out
  have B1' := below_step (below_new w _) B1.out
  clear o1 ha1 b1 HO
  go_wp2_with fail
  go_loopw [23] (fun i wr => ∃ k : Nat, k ≤ L.length ∧ i = .int .i64 (k : Int) ∧ Hid (∀ i (hi : i < L.length), i < k → fitsP K tool now r L[i] = false) ∧ Hid (Below w1.heap.size w1 wr)) (fun i _ => L.length - (intOf i).toNat)
  case atStart => exact ⟨0, Nat.zero_le _, rfl, Lib.hid (fun i _ hi => by omega), Lib.hid (Below.refl _ _)⟩
  case round =>
    obtain ⟨k, hk, rfl, HF, HB⟩ := hrel
    have HZ := Lib.hid (show wr.heap[w.heap.size]? = some (.cells #[.int .i64 0, .int .i64 0, .bool false, .int .i64 0, .int .i64 0, .int .i64 0, .int .i64 0] 43) from
      (HB.out.block _ (Nat.lt_of_lt_of_le (by simp) B1.out.size)).trans ((B1.out.block _ (by simp)).trans (heap_alloc_new w _)))
    by_cases hlt : k < L.length
    · obtain ⟨b, off, rfl, hb, hc⟩ := (HA.out.below HB.out).at (by omega)
      obtain ⟨x0, x1, x2, x3, x4, x5, x6⟩ := hc k hlt
      have HX := Lib.hid (fun h => find_at' (p := fitsP K tool now r) hlt HF.out h)
      have HNx := Lib.hid (show fitsP K tool now r L[k] = false → ∀ i (hi : i < L.length), i < k + 1 → fitsP K tool now r L[i] = false from fun h i hi hik => by
        rcases Nat.lt_or_eq_of_le (Nat.le_of_lt_succ hik) with h1 | h1
        · exact HF.out i hi h1
        · subst h1; exact h)
      have k0 : (0 : Int) ≤ (k : Int) := by omega
      have k1 : (k : Int) < (L.length : Int) := by omega
      clear hc
      generalize L[k] = j at *
      obtain ⟨j0, j1, j2, j3, j4, j5, j6⟩ := j
      simp only at x0 x1 x2 x3 x4 x5 x6
      have HW := Lib.hid (within_any j5 1 10000)
      by_cases hp : 1 ≤ j5 ∧ j5 ≤ 10000
      · rw [show (decide (1 ≤ j5) && decide (j5 ≤ 10000)) = true by simp [hp.1, hp.2]] at HW
        have HLn := Lib.hid (fun w => Length_any r ⟨j0, j1, j2, j3, j4, j5, j6⟩ w (by simp only; omega))
        have HFt : Hid (fitsP K tool now r ⟨j0, j1, j2, j3, j4, j5, j6⟩ = decide (firstK K tool now (lenP r ⟨j0, j1, j2, j3, j4, j5, j6⟩) = some now)) := Lib.hid (by unfold fitsP; simp [hp.1, hp.2])
        have HFi : Hid (Fits (lenP r ⟨j0, j1, j2, j3, j4, j5, j6⟩)) := Lib.hid (by unfold lenP Fits; split <;> simp only <;> omega)
        generalize lenP r ⟨j0, j1, j2, j3, j4, j5, j6⟩ = n at *
        clear hp
        go_wp2_with fail
        refine (HW.out _).mono ?_
        rintro _ w2 ⟨rfl, rfl⟩
        go_wp2_with fail
        refine (HLn.out _).mono ?_
        rintro _ w3 ⟨rfl, b3⟩
        have B3 := Lib.hid (below_step (HB.out.trans ((below_new wr (.cells #[.int .i64 j0, .int .i64 j1, .bool j2, .int .i64 j3, .int .i64 j4, .int .i64 j5, .int .i64 j6] 43)).mono HB.out.size)) b3)
        have HJ := Lib.hid (show JbC w3 wr.heap.size 0 ⟨j0, j1, j2, j3, j4, j5, j6⟩ from JbC.below (w := wr.alloc (.cells #[.int .i64 j0, .int .i64 j1, .bool j2, .int .i64 j3, .int .i64 j4, .int .i64 j5, .int .i64 j6] 43)) (by unfold JbC; go_simp) b3)
        have HFirst := Lib.hid (first_is tool now n (HCal.out.below (below_step B1.out B3.out)) HN.out HFi.out)
        unfold FirstPost at HFirst
        clear b3
        go_wp2_with fail
        refine HFirst.out.mono ?_
        rintro _ w4 ⟨rfl, b4⟩
        have B4 := Lib.hid (below_step B3.out b4)
        have HJ4 := Lib.hid (HJ.out.below b4)
        clear b4 HFirst
        obtain ⟨j_0, j_1, j_2, j_3, j_4, j_5, j_6⟩ := HJ4.out
        simp only [Nat.zero_add] at j_0 j_1 j_2 j_3 j_4 j_5 j_6
        generalize firstK K tool now n = f at *
        unfold firstV
        rcases f with _ | s
        · have HR := Lib.hid (HNx.out (by rw [HFt.out]; rfl))
          simp only [Option.getD_none, Option.isSome_none]
          go_wp2_with fail
          go_roundw
          case rel => exact ⟨k + 1, hlt, by go_num, HR, B4⟩
          case measure => simp [intOf]; omega
        · simp only [Option.getD_some, Option.isSome_some]
          by_cases hs : s = now
          · have HR := Lib.hid (show pickP K tool now r L = some ⟨j0, j1, j2, j3, j4, j5, j6⟩ from HX.out (by rw [HFt.out, hs]; simp))
            have HZ4 := Lib.hid (show w4.heap[w.heap.size]? = some (.cells #[.int .i64 0, .int .i64 0, .bool false, .int .i64 0, .int .i64 0, .int .i64 0, .int .i64 0] 43) from
              (B4.out.block _ (Nat.lt_of_lt_of_le (by simp) B1.out.size)).trans ((B1.out.block _ (by simp)).trans (heap_alloc_new w _)))
            have z0 := box_cell HZ4.out 0 _ rfl; have z1 := box_cell HZ4.out 1 _ rfl; have z2 := box_cell HZ4.out 2 _ rfl; have z3 := box_cell HZ4.out 3 _ rfl; have z4 := box_cell HZ4.out 4 _ rfl; have z5 := box_cell HZ4.out 5 _ rfl; have z6 := box_cell HZ4.out 6 _ rfl
            have f0 := box_fz HZ4.out 0; have f1 := box_fz HZ4.out 1; have f2 := box_fz HZ4.out 2; have f3 := box_fz HZ4.out 3; have f4 := box_fz HZ4.out 4; have f5 := box_fz HZ4.out 5; have f6 := box_fz HZ4.out 6
            subst hs
            go_wp2_with fail
            (try simp only [Exit.inBlock, Exit.then])
            refine bodyPost_ret (v := .tuple #[jbV ⟨j0, j1, j2, j3, j4, j5, j6⟩, .bool true]) ?_ rfl ⟨by rw [HR.out]; rfl, ?_⟩
            · rw [results_cell_tmp rfl]; go_simp
            · exact (((((((below_step B1' B4.out).setCell (Nat.le_refl _) _).setCell (Nat.le_refl _) _).setCell (Nat.le_refl _) _).setCell (Nat.le_refl _) _).setCell (Nat.le_refl _) _).setCell (Nat.le_refl _) _).setCell (Nat.le_refl _) _
          · have HR := Lib.hid (HNx.out (by rw [HFt.out]; simp [hs]))
            have hsb : (s == now) = false := by simp [hs]
            go_wp2_with fail
            go_roundw
            case rel => exact ⟨k + 1, hlt, by go_num, HR, B4⟩
            case measure => simp [intOf]; omega
      · have HR := Lib.hid (HNx.out (by unfold fitsP; rw [show (decide (1 ≤ j5) && decide (j5 ≤ 10000)) = false by simp; omega]; rfl))
        rw [show (decide (1 ≤ j5) && decide (j5 ≤ 10000)) = false by simp; omega] at HW
        clear hp
        have B3 := Lib.hid (HB.out.trans ((below_new wr (.cells #[.int .i64 j0, .int .i64 j1, .bool j2, .int .i64 j3, .int .i64 j4, .int .i64 j5, .int .i64 j6] 43)).mono HB.out.size))
        go_wp2_with fail
        refine (HW.out _).mono ?_
        rintro _ w2 ⟨rfl, rfl⟩
        go_wp2_with fail
        go_roundw
        case rel => exact ⟨k + 1, hlt, by go_num, HR, B3⟩
        case measure => simp [intOf]; omega
    · have k1 : ¬ (k : Int) < (L.length : Int) := by omega
      have HR := Lib.hid (show pickP K tool now r L = none from find_none' (fun i hi => HF.out i hi (by omega)))
      have z0 := box_cell HZ.out 0 _ rfl; have z1 := box_cell HZ.out 1 _ rfl; have z2 := box_cell HZ.out 2 _ rfl; have z3 := box_cell HZ.out 3 _ rfl; have z4 := box_cell HZ.out 4 _ rfl; have z5 := box_cell HZ.out 5 _ rfl; have z6 := box_cell HZ.out 6 _ rfl
      have f0 := box_fz HZ.out 0; have f1 := box_fz HZ.out 1; have f2 := box_fz HZ.out 2; have f3 := box_fz HZ.out 3; have f4 := box_fz HZ.out 4; have f5 := box_fz HZ.out 5; have f6 := box_fz HZ.out 6
      go_wp2_with fail
      (try simp only [Exit.inBlock, Exit.then])
      refine bodyPost_ret (v := .tuple #[jbV zeroJ, .bool false]) ?_ rfl ⟨by rw [HR.out]; rfl, ?_⟩
      · rw [results_cell_tmp rfl]; go_simp
      · exact (((((((below_step B1' HB.out).setCell (Nat.le_refl _) _).setCell (Nat.le_refl _) _).setCell (Nat.le_refl _) _).setCell (Nat.le_refl _) _).setCell (Nat.le_refl _) _).setCell (Nat.le_refl _) _).setCell (Nat.le_refl _) _
end Go.Proofs.Ytjdhjlhcdpekbaa
