/-
  The statements' helpers: an index that an integer determines; two lists of integers are equal; arrays of integers in a slice.
-/
import Derived.Test.YtiolmcnngpaapaaBs
import Derived.WalkMore
import Derived.Deep.DeepCutAuto
namespace Go.Proofs.Ytiolmcnngpaapaa
open Go.RowKit

def pickZ (c n : Int) : Int := if c < 0 then (-(c + 1)) % n else c % n
theorem pickZ_bd {c n : Int} (hn : 0 < n) : 0 ≤ pickZ c n ∧ pickZ c n < n := by
  unfold pickZ
  split
  · exact ⟨Int.emod_nonneg _ (by omega), Int.emod_lt_of_pos _ hn⟩
  · exact ⟨Int.emod_nonneg _ (by omega), Int.emod_lt_of_pos _ hn⟩
theorem pick_any (c n : Int) (w : World) (hc : Fits c) (hn : 0 < n ∧ n ≤ 1000000000) : Calls Try.prog 30 #[.int .i64 c, .int .i64 n] w fun e w' => e = .returned (.int .i64 (pickZ c n)) ∧ w = w' := by
  obtain ⟨c1, c2⟩ := hc
  obtain ⟨n1, n2⟩ := hn
  have hne : ¬ n = 0 := by omega
  by_cases h : c < 0
  · have h0 : 0 ≤ -(c + 1) := by omega
    have E := Lib.hid (show pickZ c n = -((c + 1).tmod n) by unfold pickZ; rw [if_pos h, ← Int.neg_tmod, Int.tmod_eq_emod_of_nonneg h0])
    go_enter Try.func30, Try.ntmps30
    go_wp2
    go_ret
    exact ⟨ret_int E.out.symm, rfl⟩
  · have h0 : 0 ≤ c := by omega
    have E := Lib.hid (show pickZ c n = c % n by unfold pickZ; rw [if_neg h])
    go_enter Try.func30, Try.ntmps30
    go_wp2
    go_ret
    exact ⟨ret_int E.out.symm, rfl⟩
/-- Arrays of k integers in a slice: the reading is a list of lists. -/
def ArrsA (k : Nat) (w : World) (a : Option Addr) (c : Nat) (L : List (List Int)) : Prop :=
  L.length ≤ c ∧ c ≤ maxLen ∧ (∀ y ∈ L, y.length = k ∧ ∀ x ∈ y, Fits x) ∧ ∀ i (h : i < L.length), ∃ b off : Nat, a = some ⟨b, off, none⟩ ∧ b < w.heap.size ∧ ∀ (j : Nat) (v : Int), L[i][j]? = some v → w.cell? ⟨b, off + i * k + j, none⟩ = some (.int .i64 v)
theorem ArrsA.below {k : Nat} {w w' : World} {a : Option Addr} {c : Nat} {L : List (List Int)} (h : ArrsA k w a c L) (hb : Below w.heap.size w w') : ArrsA k w' a c L := by
  refine ⟨h.1, h.2.1, h.2.2.1, fun i hi => ?_⟩
  obtain ⟨b, off, rfl, h1, h2⟩ := h.2.2.2 i hi
  exact ⟨b, off, rfl, Nat.lt_of_lt_of_le h1 hb.size, fun j v hv => (hb.cell (p := ⟨b, off + i * k + j, none⟩) h1).trans (h2 j v hv)⟩
set_option maxRecDepth 100000 in
/-- SameInts: reads only. -/
theorem sameInts_any (A B : List Int) (aa ba : Option Addr) (ac bc : Nat) (w : World) (hA : IntsA w aa ac A) (hB : IntsA w ba bc B) :
    Calls Try.prog 18 #[.slice aa A.length ac, .slice ba B.length bc] w fun e w' => e = .returned (.bool (decide (A = B))) ∧ Below w.heap.size w w' := by
  have hla := hA.len
  have hlb := hB.len
  unfold maxLen at hla hlb
  have HA := Lib.hid hA; have HB := Lib.hid hB
  clear hA hB
  by_cases hl : A.length = B.length
  · have e1 : ((A.length : Int) == (B.length : Int)) = true := by rw [beq_iff_eq]; omega
    go_enter Try.func18, Try.ntmps18
    go_wp2_with fail
    go_loopw [5] (fun i wr => ∃ k : Nat, k ≤ A.length ∧ i = .int .i64 (k : Int) ∧ Hid (∀ i, i < k → A[i]? = B[i]?) ∧ Hid (Below w.heap.size w wr)) (fun i _ => A.length - (intOf i).toNat)
    case atStart => exact ⟨0, Nat.zero_le _, rfl, Lib.hid (fun i hi => by omega), Lib.hid (Below.refl _ _)⟩
    case round =>
      obtain ⟨k, hk, rfl, HF, HG⟩ := hrel
      by_cases hlt : k < A.length
      · have hlt2 : k < B.length := by omega
        obtain ⟨b, off, rfl, hb, hc⟩ := (HA.out.below HG.out).at (by omega)
        obtain ⟨b2, off2, rfl, hb2, hc2⟩ := (HB.out.below HG.out).at (by omega)
        have x0 := int_cell (hc k hlt)
        have y0 := int_cell (hc2 k hlt2)
        rw [Nat.mul_one] at x0 y0
        have HS := Lib.hid (show A[k] = B[k] → ∀ i, i < k + 1 → A[i]? = B[i]? from fun h i hi => by
          rcases Nat.lt_or_eq_of_le (Nat.le_of_lt_succ hi) with h1 | h1
          · exact HF.out i h1
          · subst h1; rw [List.getElem?_eq_getElem hlt, List.getElem?_eq_getElem hlt2, h])
        have HX := Lib.hid (show ¬ A[k] = B[k] → decide (A = B) = false from fun h => by
          rw [decide_eq_false_iff_not]; intro e; subst e; exact h rfl)
        have k0 : (0 : Int) ≤ (k : Int) := by omega
        have k1 : (k : Int) < (A.length : Int) := by omega
        have k2 : (k : Int) < (B.length : Int) := by omega
        clear hc hc2
        generalize A[k] = x at *
        generalize B[k] = y at *
        by_cases hxy : x = y
        · have e2 : (x == y) = true := by rw [beq_iff_eq]; exact hxy
          have HR := Lib.hid (HS.out hxy)
          clear HS HX hxy
          go_upto_region 6 with (fail)
          go_quiet (fail)
          go_wp2_with fail
          go_roundw
          case rel => exact ⟨k + 1, hlt, by go_num, HR, Lib.hid (below_drewN HG.out _)⟩
          case measure => simp [intOf]; omega
        · have e2 : (x == y) = false := by rw [beq_eq_false_iff_ne]; exact hxy
          have HR := Lib.hid (HX.out hxy)
          clear HS HX hxy
          go_upto_region 6 with (fail)
          go_quiet (fail)
          go_wp2_with fail
          go_ret
          exact ⟨ret_bool HR.out.symm, below_drewN HG.out _⟩
      · have k1 : ¬ (k : Int) < (A.length : Int) := by omega
        have HR := Lib.hid (show decide (A = B) = true from decide_eq_true (List.ext_getElem? fun i => by
          by_cases hi : i < k
          · exact HF.out i hi
          · rw [List.getElem?_eq_none (by omega), List.getElem?_eq_none (by omega)]))
        go_wp2_with fail
        go_ret
        exact ⟨ret_bool HR.out.symm, HG.out⟩
  · have e1 : ((A.length : Int) == (B.length : Int)) = false := by rw [beq_eq_false_iff_ne]; omega
    have HR := Lib.hid (show decide (A = B) = false by rw [decide_eq_false_iff_not]; intro e; subst e; exact hl rfl)
    go_enter Try.func18, Try.ntmps18
    go_wp2_with fail
    go_ret
    exact ⟨ret_bool HR.out.symm, Below.refl _ _⟩
end Go.Proofs.Ytiolmcnngpaapaa

