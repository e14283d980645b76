/-
  dispatch's Valid, Order and Length.
-/
import Derived.Test.YtjdhjlhcdpekbaaSort
import Derived.Test.YtjdhjlhcdpekbaaShelf
namespace Go.Proofs.Ytjdhjlhcdpekbaa
open Go.RowKit Go.Shelf Go.Sort Dsp

theorem within_any (n a b : Int) (w : World) : Calls Try.prog 47 #[.int .i64 n, .int .i64 a, .int .i64 b] w fun e w' => e = .returned (.bool (decide (a ≤ n) && decide (n ≤ b))) ∧ w = w' := by
  by_cases h1 : a ≤ n
  · by_cases h2 : n ≤ b
    · go_enter Try.func47, Try.ntmps47
      go_wp2_with fail
      go_ret
      exact ⟨by simp [h1, h2], rfl⟩
    · go_enter Try.func47, Try.ntmps47
      go_wp2_with fail
      go_ret
      exact ⟨by simp; omega, rfl⟩
  · go_enter Try.func47, Try.ntmps47
    go_wp2_with fail
    go_ret
    exact ⟨by simp; intros; omega, rfl⟩

def okAt (rs : List Int) (i : Nat) : Bool := decide (1 ≤ rs[i]?.getD 0) && decide (rs[i]?.getD 0 ≤ 6) && !(rs.take i).contains (rs[i]?.getD 0)
theorem validR_iff {rs : List Int} : validR rs = true ↔ ∀ i, i < rs.length → okAt rs i = true := by
  unfold validR okAt; simp only [List.all_eq_true, List.mem_range]
theorem validR_false {rs : List Int} {i : Nat} (hi : i < rs.length) (h : okAt rs i = false) : validR rs = false := by
  cases hv : validR rs
  · rfl
  · rw [validR_iff.1 hv i hi] at h; cases h
theorem validR_16 {rs : List Int} (h : validR rs = true) : ∀ x ∈ rs, 1 ≤ x ∧ x ≤ 6 := by
  intro x hx
  obtain ⟨i, hi, rfl⟩ := List.getElem_of_mem hx
  have := validR_iff.1 h i hi
  unfold okAt at this
  rw [List.getElem?_eq_getElem hi] at this
  simp only [Option.getD_some, Bool.and_eq_true, decide_eq_true_eq] at this
  exact this.1

set_option maxRecDepth 100000 in
set_option maxHeartbeats 1000000 in
theorem DValid_any (rs : List Int) (a : Option Addr) (c : Nat) (w : World) (h : IntA w a c rs) : Calls Try.prog 27 #[.slice a rs.length c] w fun e w' => e = .returned (.bool (validR rs)) ∧ Below w.heap.size w w' := by
  have hl := Nat.le_trans h.1 h.2.1
  unfold maxLen at hl
  have H := Lib.hid h
  have hc9 : rs.length ≤ c := h.1
  clear h
  go_enter Try.func27, Try.ntmps27
  go_wp2_with fail
  go_loopw [7] (fun i wr => ∃ k : Nat, k ≤ rs.length ∧ i = .int .i64 (k : Int) ∧ Hid (∀ i, i < k → okAt rs i = true) ∧ Hid (Below w.heap.size w wr)) (fun i _ => rs.length - (intOf i).toNat)
  case atStart => exact ⟨0, Nat.zero_le _, rfl, Lib.hid (fun i hi => by omega), Lib.hid (Below.refl _ _)⟩
  case round =>
    obtain ⟨k, hk, rfl, HO, HB⟩ := hrel
    by_cases hlt : k < rs.length
    · obtain ⟨b, off, rfl, hb, hc0⟩ := H.out.2.2 k hlt
      have hc : wr.cell? ⟨b, off + k, none⟩ = some (.int .i64 rs[k]) := cell_below HB.out hc0
      have HC := Lib.hid (Try.slices_Contains_int b off k c rs rs[k] wr hk (by omega) (fun j hj => by
        obtain ⟨b', off', e, _, hc1⟩ := H.out.2.2 j hj
        injection e with e; injection e with e1 e2; subst e1; subst e2
        rw [cell_below HB.out hc1, List.getD_eq_getElem?_getD, List.getElem?_eq_getElem hj]; rfl))
      have HW := Lib.hid (within_any rs[k] 1 6)
      have HK := Lib.hid (show okAt rs k = ((decide (1 ≤ rs[k]) && decide (rs[k] ≤ 6)) && !(rs.take k).contains rs[k]) by unfold okAt; rw [List.getElem?_eq_getElem hlt]; rfl)
      have HT := Lib.hid (fun h => validR_false (i := k) hlt h)
      have k0 : (0 : Int) ≤ (k : Int) := by omega
      have k1 : (k : Int) < (rs.length : Int) := by omega
      have k2 : (k : Int) ≤ (c : Int) := by omega
      clear hc0
      generalize (decide (1 ≤ rs[k]) && decide (rs[k] ≤ 6)) = p at *
      generalize (rs.take k).contains rs[k] = q at *
      generalize rs[k] = x at *
      cases p with
      | false =>
        have HR := Lib.hid (HT.out (by rw [HK.out]; rfl))
        go_wp2_with fail
        refine (HW.out _).mono ?_
        rintro _ w1 ⟨rfl, rfl⟩
        go_wp2_with fail
        go_ret
        exact ⟨ret_bool HR.out.symm, HB.out⟩
      | true =>
        go_wp2_with fail
        refine (HW.out _).mono ?_
        rintro _ w1 ⟨rfl, rfl⟩
        go_wp2_with fail
        refine HC.out.mono ?_
        rintro _ w1 ⟨rfl, rfl⟩
        cases q with
        | true =>
          have HR := Lib.hid (HT.out (by rw [HK.out]; rfl))
          go_wp2_with fail
          go_ret
          exact ⟨ret_bool HR.out.symm, HB.out⟩
        | false =>
          have HR := Lib.hid (show ∀ i, i < k + 1 → okAt rs i = true from fun i hi => by
            rcases Nat.lt_or_eq_of_le (Nat.le_of_lt_succ hi) with h | h
            · exact HO.out i h
            · subst h; rw [HK.out]; rfl)
          go_wp2_with fail
          go_roundw
          case rel => exact ⟨k + 1, hlt, by go_num, HR, HB⟩
          case measure => simp [intOf]; omega
    · have k1 : ¬ (k : Int) < (rs.length : Int) := by omega
      have HR := Lib.hid (validR_iff.2 (fun i hi => HO.out i (by omega)))
      go_wp2_with fail
      go_ret
      exact ⟨ret_bool HR.out.symm, HB.out⟩

theorem Length_any (r : Int) (j : Jb) (w : World) (hj : -9223372036854775808 ≤ j.len ∧ j.len ≤ 9223372036854775787) : Calls Try.prog 29 #[.int .i64 r, jbV j] w fun e w' => e = .returned (.int .i64 (lenP r j)) ∧ Below w.heap.size w w' := by
  obtain ⟨j0, j1, j2, j3, j4, j5, j6⟩ := j
  simp only at hj
  have hw : IntKind.i64.wrap (j5 + 20) = j5 + 20 := IntWalk.i64_in _ (by omega)
  by_cases h : j1 = r
  · have HR := Lib.hid (show lenP r ⟨j0, j1, j2, j3, j4, j5, j6⟩ = j5 by unfold lenP; rw [if_pos h])
    go_enter Try.func29, Try.ntmps29
    go_wp2_with fail
    go_ret
    exact ⟨ret_int HR.out.symm, below_new _ _⟩
  · have HR := Lib.hid (show lenP r ⟨j0, j1, j2, j3, j4, j5, j6⟩ = j5 + 20 by unfold lenP; rw [if_neg h])
    go_enter Try.func29, Try.ntmps29
    go_wp2_with fail
    go_ret
    exact ⟨ret_int HR.out.symm, below_new _ _⟩

/-! ### Order -/
set_option maxRecDepth 100000 in
set_option maxHeartbeats 1000000 in
theorem Order_any (rs : List Int) (ra : Option Addr) (rc : Nat) (r : Int) (l : List Jb) (a : Option Addr) (c : Nat) (w : World) (hr : IntA w ra rc rs) (hrl : rs.length ≤ 1000) (hl : l.length < 20) (h : JbA w a c l) :
    Calls Try.prog 22 #[.slice ra rs.length rc, .int .i64 r, .slice a l.length c] w (NewJobs w (orderV rs r l)) := by
  unfold NewJobs
  have HV := Lib.hid (DValid_any rs ra rc w hr)
  cases hv : validR rs with
  | false =>
    rw [hv] at HV
    have HE := Lib.hid (show orderV rs r l = [] by unfold orderV; rw [hv]; rfl)
    clear h hr hv
    go_enter Try.func22, Try.ntmps22
    go_wp2_with fail
    refine HV.out.mono ?_
    rintro _ w1 ⟨rfl, b1⟩
    have B1 := Lib.hid b1; clear b1
    go_wp2_with fail
    go_ret
    exact ⟨_, rfl, by rw [HE.out]; exact JbOwn.nil _ _, B1.out⟩
  | true =>
    rw [hv] at HV
    have HE := Lib.hid (show orderV rs r l = order rs r l by unfold orderV; rw [hv]; rfl)
    have H16 := Lib.hid (validR_16 hv)
    have HR := Lib.hid hr; have HA := Lib.hid h
    clear h hr hv
    go_enter Try.func22, Try.ntmps22
    go_wp2_with fail
    refine HV.out.mono ?_
    rintro _ w1 ⟨rfl, b1⟩
    have B1 := Lib.hid b1; clear b1
    have HC := Lib.hid (jClone_any a c l w1 (HA.out.below B1.out) (by omega))
    unfold NewJobs at HC
    go_wp2_with fail
    refine HC.out.mono ?_
    rintro _ w2 ⟨v, rfl, o2, b2⟩
    have O2 := Lib.hid o2; have B2 := Lib.hid (below_step B1.out b2)
    have HM := Lib.hid (comparison_any rs ra rc r w2 (HR.out.below B2.out) H16.out hrl)
    clear o2 b2
    go_wp2_with fail
    refine HM.out.mono ?_
    rintro _ w3 ⟨X, rfl, c3, b3⟩
    have HS := Lib.hid (sortStable_any c3 H16.out (fun k hk => (O2.out.lt k hk).2) hl (own_below O2.out b3))
    have B3 := Lib.hid (below_step B2.out b3)
    clear c3 b3
    go_wp2_with fail
    refine HS.out.mono ?_
    rintro _ w4 ⟨rfl, o4, c4⟩
    have O4 := Lib.hid (show JbOwn w4 w.heap.size v (orderV rs r l) by rw [HE.out]; exact o4.mono B1.out.size)
    have B4 := Lib.hid (show Below w.heap.size w w4 from B3.out.trans (c4.below B3.out.size (fun k hk => by have := (O2.out.lt k hk).1; have := B1.out.size; omega)))
    clear o4 c4
    go_wp2_with fail
    go_ret
    exact ⟨v, rfl, O4.out, B4.out⟩
end Go.Proofs.Ytjdhjlhcdpekbaa
