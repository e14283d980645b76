/-
  Contracts of the small functions: isNil, isTool, isValid, list, the reference's Valid, the two picks.
-/
import Derived.Test.YtjdhjlhcdpekbaaBase
namespace Go.Proofs.Ytjdhjlhcdpekbaa
open Go.RowKit

theorem isTool_any (t : Int) (w : World) : Calls Try.prog 69 #[.int .i64 t] w fun e w' => e = .returned (.bool (Kal.isTool t)) ∧ w = w' := by
  by_cases h1 : 0 ≤ t
  · have hv : decide (t < 60) = Kal.isTool t := by unfold Kal.isTool; simp [h1]
    have HV := Lib.hid hv; clear hv
    go_enter Try.func69, Try.ntmps69
    go_wp2
    go_ret
    exact ⟨ret_bool HV.out, rfl⟩
  · have hv : Kal.isTool t = false := by unfold Kal.isTool; simp [h1]
    have HV := Lib.hid hv; clear hv
    go_enter Try.func69, Try.ntmps69
    go_wp2
    go_ret
    exact ⟨ret_bool HV.out.symm, rfl⟩
theorem isNil_nil (w : World) : Calls Try.prog 57 #[.pointer none] w fun e w' => e = .returned (.bool true) ∧ w = w' := by
  go_enter Try.func57, Try.ntmps57
  go_wp2
  go_ret
  exact ⟨rfl, rfl⟩
theorem isNil_no {B : Nat} {c : CalP} {K : Kal.Kal} {w : World} (h : CalAt B c K w) : Calls Try.prog 57 #[c.ptr] w fun e w' => e = .returned (.bool false) ∧ w = w' := by
  have hc := h.cells.1
  clear h
  go_enter Try.func57, Try.ntmps57
  go_wp2
  go_ret
  exact ⟨rfl, rfl⟩
set_option maxRecDepth 100000 in
theorem isValid_any (b : Kal.Bk) (w : World) : Calls Try.prog 58 #[bkV b] w fun e w' => e = .returned (.bool (Kal.okB b)) ∧ Below w.heap.size w w' := by
  obtain ⟨V, hV⟩ : ∃ V, Kal.isTool b.tool = V := ⟨_, rfl⟩
  have hT := isTool_any b.tool
  rw [hV] at hT
  have HT := Lib.hid hT
  have HO : Hid (Kal.okB b = (V && decide (0 ≤ b.s) && decide (b.s < b.e) && decide (b.e ≤ 1000000) && decide (1 ≤ b.o) && decide (b.o ≤ 1000000))) := Lib.hid (by unfold Kal.okB; rw [hV])
  clear hT hV
  rw [HO.out]
  obtain ⟨t, s, e, o⟩ := b
  cases V
  · go_enter Try.func58, Try.ntmps58
    go_wp2_with fail
    refine (HT.out _).mono ?_; rintro _ w1 ⟨rfl, rfl⟩
    go_wp2_with fail
    go_ret
    exact ⟨by simp, below_new _ _⟩
  · by_cases h1 : 0 ≤ s
    · by_cases h2 : s < e
      · by_cases h3 : e ≤ 1000000
        · by_cases h4 : 1 ≤ o
          · go_enter Try.func58, Try.ntmps58
            go_wp2_with fail
            refine (HT.out _).mono ?_; rintro _ w1 ⟨rfl, rfl⟩
            go_wp2_with fail
            go_ret
            exact ⟨by simp [h1, h2, h3, h4], below_new _ _⟩
          · go_enter Try.func58, Try.ntmps58
            go_wp2_with fail
            refine (HT.out _).mono ?_; rintro _ w1 ⟨rfl, rfl⟩
            go_wp2_with fail
            go_ret
            exact ⟨by simp; intros; omega, below_new _ _⟩
        · go_enter Try.func58, Try.ntmps58
          go_wp2_with fail
          refine (HT.out _).mono ?_; rintro _ w1 ⟨rfl, rfl⟩
          go_wp2_with fail
          go_ret
          exact ⟨by simp; intros; omega, below_new _ _⟩
      · go_enter Try.func58, Try.ntmps58
        go_wp2_with fail
        refine (HT.out _).mono ?_; rintro _ w1 ⟨rfl, rfl⟩
        go_wp2_with fail
        go_ret
        exact ⟨by simp; intros; omega, below_new _ _⟩
    · go_enter Try.func58, Try.ntmps58
      go_wp2_with fail
      refine (HT.out _).mono ?_; rintro _ w1 ⟨rfl, rfl⟩
      go_wp2_with fail
      go_ret
      exact ⟨by simp; intros; omega, below_new _ _⟩
theorem list_nil (t : Int) (w : World) : Calls Try.prog 56 #[.pointer none, .int .i64 t] w fun e w' => e = .returned (.slice none 0 0) ∧ w = w' := by
  go_enter Try.func56, Try.ntmps56
  go_wp2_with fail
  refine (isNil_nil _).mono ?_; rintro _ w1 ⟨rfl, rfl⟩
  go_wp2_with fail
  go_ret
  exact ⟨rfl, rfl⟩
theorem list_no {B : Nat} {c : CalP} {K : Kal.Kal} {w : World} (t : Int) (h : CalAt B c K w) (ht : Kal.isTool t = false) : Calls Try.prog 56 #[c.ptr, .int .i64 t] w fun e w' => e = .returned (.slice none 0 0) ∧ w = w' := by
  have HT := isTool_any t
  rw [ht] at HT
  have HT := Lib.hid HT
  have HN := Lib.hid (isNil_no h)
  clear h ht
  go_enter Try.func56, Try.ntmps56
  go_wp2_with fail
  refine HN.out.mono ?_; rintro _ w1 ⟨rfl, rfl⟩
  go_wp2_with fail
  refine (HT.out _).mono ?_; rintro _ w1 ⟨rfl, rfl⟩
  go_wp2_with fail
  go_ret
  exact ⟨rfl, rfl⟩
theorem list_yes {B : Nat} {c : CalP} {K : Kal.Kal} {w : World} (t : Nat) (h : CalAt B c K w) (ht : t < 60) : Calls Try.prog 56 #[c.ptr, .int .i64 t] w fun e w' => e = .returned (c.V t) ∧ w = w' := by
  have HT := isTool_any t
  rw [show Kal.isTool t = true by unfold Kal.isTool; simp; omega] at HT
  have HT := Lib.hid HT
  have HN := Lib.hid (isNil_no h)
  have hc := h.cells.1
  have hv := (h.cells.2 t ht).1
  generalize c.V t = v at *
  have t0 : (0 : Int) ≤ t := by omega
  have t1 : (t : Int) < 60 := by omega
  clear h ht
  go_enter Try.func56, Try.ntmps56
  go_wp2_with fail
  refine HN.out.mono ?_; rintro _ w1 ⟨rfl, rfl⟩
  go_wp2_with fail
  refine (HT.out _).mono ?_; rintro _ w1 ⟨rfl, rfl⟩
  go_wp2_with fail
  go_ret
  exact ⟨rfl, rfl⟩

def pickZ (c n : Int) : Int := if c < 0 then (-(c + 1)) % n else c % n
theorem pickZ_bd {c n : Int} (h : 0 < n) : 0 ≤ pickZ c n ∧ pickZ c n < n := by
  unfold pickZ; split
  · exact ⟨Int.emod_nonneg _ (by omega), Int.emod_lt_of_pos _ h⟩
  · exact ⟨Int.emod_nonneg _ (by omega), Int.emod_lt_of_pos _ h⟩
theorem refPick_any (c n : Int) (w : World) (hc : Fits c) (hn : 0 < n ∧ n ≤ 1000000000) : Calls Try.prog 44 #[.int .i64 c, .int .i64 n] w fun e w' => e = .returned (.int .i64 (pickZ c n)) ∧ w = w' := by
  obtain ⟨c1, c2⟩ := hc
  obtain ⟨n1, n2⟩ := hn
  have hne : ¬ n = 0 := by omega
  by_cases h : c < 0
  · have h0 : 0 ≤ -(c + 1) := by omega
    have E := Lib.hid (show pickZ c n = -((c + 1).tmod n) by unfold pickZ; rw [if_pos h, ← Int.neg_tmod, Int.tmod_eq_emod_of_nonneg h0])
    go_enter Try.func44, Try.ntmps44
    go_wp2
    go_ret
    exact ⟨ret_int E.out.symm, rfl⟩
  · have h0 : 0 ≤ c := by omega
    have E := Lib.hid (show pickZ c n = c % n by unfold pickZ; rw [if_neg h])
    go_enter Try.func44, Try.ntmps44
    go_wp2
    go_ret
    exact ⟨ret_int E.out.symm, rfl⟩
theorem pick_any (c n : Int) (w : World) (hc : Fits c) (hn : 0 < n ∧ n ≤ 1000000000) : Calls Try.prog 31 #[.int .i64 c, .int .i64 n] w fun e w' => e = .returned (.int .i64 (pickZ c n)) ∧ w = w' := by
  obtain ⟨c1, c2⟩ := hc
  obtain ⟨n1, n2⟩ := hn
  have hne : ¬ n = 0 := by omega
  by_cases h : c < 0
  · have h0 : 0 ≤ -(c + 1) := by omega
    have E := Lib.hid (show pickZ c n = -((c + 1).tmod n) by unfold pickZ; rw [if_pos h, ← Int.neg_tmod, Int.tmod_eq_emod_of_nonneg h0])
    go_enter Try.func31, Try.ntmps31
    go_wp2
    go_ret
    exact ⟨ret_int E.out.symm, rfl⟩
  · have h0 : 0 ≤ c := by omega
    have E := Lib.hid (show pickZ c n = c % n by unfold pickZ; rw [if_neg h])
    go_enter Try.func31, Try.ntmps31
    go_wp2
    go_ret
    exact ⟨ret_int E.out.symm, rfl⟩
end Go.Proofs.Ytjdhjlhcdpekbaa

