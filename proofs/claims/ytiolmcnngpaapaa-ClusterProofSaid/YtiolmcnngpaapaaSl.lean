/-
  The library's Equal, Index and Contains of integers.
-/
import Derived.Test.YtiolmcnngpaapaaCl
import Derived.Test.YtiolmcnngpaapaaBs
import Derived.WalkMore
import Derived.Deep.DeepCutAuto
namespace Go.Proofs.Ytiolmcnngpaapaa
open Go.RowKit Cl

theorem ixTo_miss (x : Int) : ∀ (l : List Int) (k : Nat), x ∉ l → ixTo x l k = -1 := by
  intro l; induction l with
  | nil => intro k _; rfl
  | cons y l ih =>
    intro k h
    rw [ixTo, if_neg (by intro e; exact h (by simp [e]))]
    exact ih _ (fun hm => h (by simp [hm]))
theorem ixTo_at (x : Int) : ∀ (l : List Int) (k i : Nat) (h : i < l.length), l[i] = x → (∀ j (hj : j < l.length), j < i → l[j] ≠ x) → ixTo x l k = ((k + i : Nat) : Int) := by
  intro l; induction l with
  | nil => intro k i h; cases h
  | cons y l ih =>
    intro k i h he hn
    cases i with
    | zero => rw [ixTo, if_pos (by simpa using he.symm)]; simp
    | succ i =>
      rw [ixTo, if_neg (fun e => hn 0 (by simp) (by omega) (by simpa using e.symm))]
      rw [ih (k + 1) i (by simpa using h) (by simpa using he) (fun j hj hi => by have := hn (j + 1) (by simp only [List.length_cons]; omega) (by omega); rw [List.getElem_cons_succ] at this; exact this)]
      omega
set_option maxRecDepth 100000 in
theorem slEqual_any (A B : List Int) (aa ba : Option Addr) (ac bc : Nat) (w : World) (hA : IntsA w aa ac A) (hB : IntsA w ba bc B) :
    Calls Try.prog 41 #[.slice aa A.length ac, .slice ba B.length bc] w fun e w' => e = .returned (.bool (decide (A = B))) ∧ Below w.heap.size w w' := by
  have hla := hA.len
  have hlb := hB.len
  unfold maxLen at hla hlb
  have HA := Lib.hid hA; have HB := Lib.hid hB
  clear hA hB
  by_cases hl : A.length = B.length
  · have e1 : ((A.length : Int) == (B.length : Int)) = true := by rw [beq_iff_eq]; omega
    have e2 : ((A.length : Int) != (B.length : Int)) = false := by simp [hl]
    go_enter Try.func41, Try.ntmps41
    go_wp2_with fail
    go_loopw [13] (fun i wr => ∃ k : Nat, k ≤ A.length ∧ i = .int .i64 (k : Int) ∧ Hid (∀ i, i < k → A[i]? = B[i]?) ∧ Hid (Below w.heap.size w wr)) (fun i _ => A.length - (intOf i).toNat)
    case atStart => exact ⟨0, Nat.zero_le _, rfl, Lib.hid (fun i hi => by omega), Lib.hid (Below.refl _ _)⟩
    case round =>
      obtain ⟨k, hk, rfl, HF, HG⟩ := hrel
      by_cases hlt : k < A.length
      · have hlt2 : k < B.length := by omega
        obtain ⟨b, off, rfl, hb, hc⟩ := (HA.out.below HG.out).at (by omega)
        obtain ⟨b2, off2, rfl, hb2, hc2⟩ := (HB.out.below HG.out).at (by omega)
        have x0 := int_cell (hc k hlt)
        have y0 := int_cell (hc2 k hlt2)
        rw [Nat.mul_one] at x0 y0
        have HS := Lib.hid (show A[k] = B[k] → ∀ i, i < k + 1 → A[i]? = B[i]? from fun h i hi => by
          rcases Nat.lt_or_eq_of_le (Nat.le_of_lt_succ hi) with h1 | h1
          · exact HF.out i h1
          · subst h1; rw [List.getElem?_eq_getElem hlt, List.getElem?_eq_getElem hlt2, h])
        have HX := Lib.hid (show ¬ A[k] = B[k] → decide (A = B) = false from fun h => by
          rw [decide_eq_false_iff_not]; intro e; subst e; exact h rfl)
        have k0 : (0 : Int) ≤ (k : Int) := by omega
        have k1 : (k : Int) < (A.length : Int) := by omega
        have k2 : (k : Int) < (B.length : Int) := by omega
        clear hc hc2
        generalize A[k] = x at *
        generalize B[k] = y at *
        by_cases hxy : x = y
        · have e2 : (x != y) = false := by simp [hxy]
          have HR := Lib.hid (HS.out hxy)
          clear HS HX hxy
          go_upto_region 6 with (fail)
          go_quiet (fail)
          go_wp2_with fail
          go_roundw
          case rel => exact ⟨k + 1, hlt, by go_num, HR, Lib.hid (below_drewN HG.out _)⟩
          case measure => simp [intOf]; omega
        · have e2 : (x != y) = true := by simp [hxy]
          have HR := Lib.hid (HX.out hxy)
          clear HS HX hxy
          go_upto_region 6 with (fail)
          go_quiet (fail)
          go_wp2_with fail
          go_ret
          exact ⟨ret_bool HR.out.symm, below_drewN HG.out _⟩
      · have k1 : ¬ (k : Int) < (A.length : Int) := by omega
        have HR := Lib.hid (show decide (A = B) = true from decide_eq_true (List.ext_getElem? fun i => by
          by_cases hi : i < k
          · exact HF.out i hi
          · rw [List.getElem?_eq_none (by omega), List.getElem?_eq_none (by omega)]))
        go_wp2_with fail
        go_ret
        exact ⟨ret_bool HR.out.symm, HG.out⟩
  · have e1 : ((A.length : Int) != (B.length : Int)) = true := by rw [bne_iff_ne]; omega
    have HR := Lib.hid (show decide (A = B) = false by rw [decide_eq_false_iff_not]; intro e; subst e; exact hl rfl)
    go_enter Try.func41, Try.ntmps41
    go_wp2_with fail
    go_ret
    exact ⟨ret_bool HR.out.symm, Below.refl _ _⟩
set_option maxRecDepth 100000 in
theorem slIndex_any (A : List Int) (x : Int) (aa : Option Addr) (ac : Nat) (w : World) (hA : IntsA w aa ac A) :
    Calls Try.prog 63 #[.slice aa A.length ac, .int .i64 x] w fun e w' => e = .returned (.int .i64 (ix A x)) ∧ w = w' := by
  have hla := hA.len
  unfold maxLen at hla
  have HA := Lib.hid hA
  clear hA
  go_enter Try.func63, Try.ntmps63
  go_wp2_with fail
  go_loopw [8] (fun i wr => ∃ k : Nat, k ≤ A.length ∧ i = .int .i64 (k : Int) ∧ Hid (∀ j (hj : j < A.length), j < k → A[j] ≠ x) ∧ Hid (wr = w)) (fun i _ => A.length - (intOf i).toNat)
  case atStart => exact ⟨0, Nat.zero_le _, rfl, Lib.hid (fun i _ hi => by omega), Lib.hid rfl⟩
  case round =>
    obtain ⟨k, hk, rfl, HF, HW⟩ := hrel
    obtain rfl := HW.out
    clear HW
    by_cases hlt : k < A.length
    · obtain ⟨b, off, rfl, hb, hc⟩ := HA.out.at (by omega)
      have x0 := int_cell (hc k hlt)
      rw [Nat.mul_one] at x0
      have HS := Lib.hid (show A[k] ≠ x → ∀ j (hj : j < A.length), j < k + 1 → A[j] ≠ x from fun h j hj hi => by
        rcases Nat.lt_or_eq_of_le (Nat.le_of_lt_succ hi) with h1 | h1
        · exact HF.out j hj h1
        · subst h1; exact h)
      have HX := Lib.hid (show A[k] = x → ix A x = (k : Int) from fun h => by
        unfold ix; rw [ixTo_at x A 0 k hlt h HF.out]; simp)
      have k0 : (0 : Int) ≤ (k : Int) := by omega
      have k1 : (k : Int) < (A.length : Int) := by omega
      clear hc
      generalize A[k] = y at *
      by_cases hxy : y = x
      · have e2 : (x == y) = true := by simp [hxy]
        have HR := Lib.hid (HX.out hxy)
        clear HS HX hxy
        go_wp2_with fail
        go_ret
        exact ⟨ret_int HR.out.symm, rfl⟩
      · have e2 : (x == y) = false := by rw [beq_eq_false_iff_ne]; exact fun e => hxy e.symm
        have HR := Lib.hid (HS.out hxy)
        clear HS HX hxy
        go_wp2_with fail
        go_roundw
        case rel => exact ⟨k + 1, hlt, by go_num, HR, Lib.hid (by trivial)⟩
        case measure => simp [intOf]; omega
    · have k1 : ¬ (k : Int) < (A.length : Int) := by omega
      have HR := Lib.hid (show ix A x = -1 from ixTo_miss x A 0 (fun h => by
        obtain ⟨i, hi, e⟩ := List.getElem_of_mem h
        exact HF.out i hi (by omega) e))
      go_wp2_with fail
      go_ret
      exact ⟨ret_int HR.out.symm, rfl⟩
theorem ixTo_ge (x : Int) : ∀ (l : List Int) (k : Nat), x ∈ l → 0 ≤ ixTo x l k := by
  intro l; induction l with
  | nil => intro k h; cases h
  | cons y l ih =>
    intro k h
    rw [ixTo]; split
    · omega
    · rename_i hne
      rcases List.mem_cons.1 h with rfl | h
      · exact absurd rfl hne
      · exact ih _ h
set_option maxRecDepth 100000 in
theorem slContains_any (A : List Int) (x : Int) (aa : Option Addr) (ac : Nat) (w : World) (hA : IntsA w aa ac A) :
    Calls Try.prog 91 #[.slice aa A.length ac, .int .i64 x] w fun e w' => e = .returned (.bool (A.contains x)) ∧ w = w' := by
  have HI := Lib.hid (slIndex_any A x aa ac w hA)
  have hm : x ∈ A → 0 ≤ ix A x := ixTo_ge x A 0
  have hn : x ∉ A → ix A x = -1 := ixTo_miss x A 0
  have HC := Lib.hid (show ((0 ≤ ix A x) → A.contains x = true) ∧ (¬ (0 ≤ ix A x) → A.contains x = false) from
    ⟨fun h => by rw [List.contains_iff_mem]; exact Classical.byContradiction fun hx => by have := hn hx; omega, fun h => by
      rw [Bool.eq_false_iff]; intro e; rw [List.contains_iff_mem] at e; exact h (hm e)⟩)
  generalize ix A x = r at *
  generalize A.contains x = V at *
  clear hA hm hn
  by_cases h0 : 0 ≤ r
  · have HR := Lib.hid (HC.out.1 h0)
    go_enter Try.func91, Try.ntmps91
    go_wp2_with fail
    refine HI.out.mono ?_
    rintro _ w1 ⟨rfl, rfl⟩
    go_wp2_with fail
    go_ret
    exact ⟨ret_bool (by simp [HR.out]), rfl⟩
  · have HR := Lib.hid (HC.out.2 h0)
    go_enter Try.func91, Try.ntmps91
    go_wp2_with fail
    refine HI.out.mono ?_
    rintro _ w1 ⟨rfl, rfl⟩
    go_wp2_with fail
    go_ret
    exact ⟨ret_bool (by simp [HR.out, h0]), rfl⟩
end Go.Proofs.Ytiolmcnngpaapaa
