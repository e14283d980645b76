/-
  Contracts of the two picks; integers in arrays.
-/
import Derived.Test.YtngpkipblcihaaaVp
import Derived.Test.YtngpkipblcihaaaMd
namespace Go.Proofs.Ytngpkipblcihaaa
open Go.RowKit

theorem refPick_any (c n : Int) (w : World) (hc : Fits c) (hn : 0 < n ∧ n ≤ 1000000000) : Calls Try.prog 27 #[.int .i64 c, .int .i64 n] w fun e w' => e = .returned (.int .i64 (pickZ c n)) ∧ w = w' := by
  obtain ⟨c1, c2⟩ := hc
  obtain ⟨n1, n2⟩ := hn
  have hne : ¬ n = 0 := by omega
  by_cases h : c < 0
  · have h0 : 0 ≤ -(c + 1) := by omega
    have E := Lib.hid (show pickZ c n = -((c + 1).tmod n) by unfold pickZ; rw [if_pos h, ← Int.neg_tmod, Int.tmod_eq_emod_of_nonneg h0])
    go_enter Try.func27, Try.ntmps27
    go_wp2
    go_ret
    exact ⟨ret_int E.out.symm, rfl⟩
  · have h0 : 0 ≤ c := by omega
    have E := Lib.hid (show pickZ c n = c % n by unfold pickZ; rw [if_neg h])
    go_enter Try.func27, Try.ntmps27
    go_wp2
    go_ret
    exact ⟨ret_int E.out.symm, rfl⟩
theorem pick_any (c n : Int) (w : World) (hc : Fits c) (hn : 0 < n ∧ n ≤ 1000000000) : Calls Try.prog 15 #[.int .i64 c, .int .i64 n] w fun e w' => e = .returned (.int .i64 (pickZ c n)) ∧ w = w' := by
  obtain ⟨c1, c2⟩ := hc
  obtain ⟨n1, n2⟩ := hn
  have hne : ¬ n = 0 := by omega
  by_cases h : c < 0
  · have h0 : 0 ≤ -(c + 1) := by omega
    have E := Lib.hid (show pickZ c n = -((c + 1).tmod n) by unfold pickZ; rw [if_pos h, ← Int.neg_tmod, Int.tmod_eq_emod_of_nonneg h0])
    go_enter Try.func15, Try.ntmps15
    go_wp2
    go_ret
    exact ⟨ret_int E.out.symm, rfl⟩
  · have h0 : 0 ≤ c := by omega
    have E := Lib.hid (show pickZ c n = c % n by unfold pickZ; rw [if_neg h])
    go_enter Try.func15, Try.ntmps15
    go_wp2
    go_ret
    exact ⟨ret_int E.out.symm, rfl⟩
theorem refPick_is (c n : Int) (hc : Fits c) (hn : 0 < n ∧ n ≤ 1000000000) (w : World) : Calls Try.prog 27 #[.int .i64 c, .int .i64 n] w fun e w' => e = .returned (.int .i64 (pickZ c n)) ∧ w' = w := (refPick_any c n w hc hn).mono fun _ _ h => ⟨h.1, h.2.symm⟩
theorem fits_tdiv {c n : Int} (hc : Fits c) (hn : 1 < n) : Fits (c.tdiv n) := by
  obtain ⟨h1, h2⟩ := hc
  have : (c.tdiv n).natAbs ≤ c.natAbs := by rw [Int.natAbs_tdiv]; exact Nat.div_le_self _ _
  have h3 : c.natAbs ≤ 9223372036854775808 := by omega
  by_cases h0 : 0 ≤ c
  · have := Int.tdiv_nonneg h0 (show 0 ≤ n by omega)
    exact ⟨by omega, by omega⟩
  · have : (-c).tdiv n = -(c.tdiv n) := Int.neg_tdiv ..
    have h4 := Int.tdiv_nonneg (a := -c) (b := n) (by omega) (by omega)
    exact ⟨by omega, by omega⟩
theorem wrap_fits {c : Int} (h : Fits c) : IntKind.i64.wrap c = c := IntWalk.i64_in _ h
/-- Arrays of k integers in a slice: the reading is a list of lists. -/
def ArrsA (k : Nat) (w : World) (a : Option Addr) (c : Nat) (L : List (List Int)) : Prop :=
  L.length ≤ c ∧ c ≤ maxLen ∧ (∀ y ∈ L, y.length = k ∧ ∀ x ∈ y, Fits x) ∧ ∀ i (h : i < L.length), ∃ b off : Nat, a = some ⟨b, off, none⟩ ∧ b < w.heap.size ∧ ∀ (j : Nat) (v : Int), L[i][j]? = some v → w.cell? ⟨b, off + i * k + j, none⟩ = some (.int .i64 v)
theorem ArrsA.below {k : Nat} {w w' : World} {a : Option Addr} {c : Nat} {L : List (List Int)} (h : ArrsA k w a c L) (hb : Below w.heap.size w w') : ArrsA k w' a c L := by
  refine ⟨h.1, h.2.1, h.2.2.1, fun i hi => ?_⟩
  obtain ⟨b, off, rfl, h1, h2⟩ := h.2.2.2 i hi
  exact ⟨b, off, rfl, Nat.lt_of_lt_of_le h1 hb.size, fun j v hv => (hb.cell (p := ⟨b, off + i * k + j, none⟩) h1).trans (h2 j v hv)⟩
theorem six_list {y : List Int} (h : y.length = 6) : ∃ a b c d e f, y = [a, b, c, d, e, f] := by
  match y, h with
  | [a, b, c, d, e, f], _ => exact ⟨a, b, c, d, e, f, rfl⟩
theorem two_list {y : List Int} (h : y.length = 2) : ∃ a b, y = [a, b] := by
  match y, h with
  | [a, b], _ => exact ⟨a, b, rfl⟩
/-- Two records or rows in blocks of their own. -/
theorem ne_of_kind {w : World} {i j : Nat} {cs ds : Array Value} {t u : TypeId} (h1 : w.heap[i]? = some (.cells cs t)) (h2 : w.heap[j]? = some (.cells ds u)) (h : t ≠ u) : i ≠ j := by
  rintro rfl; rw [h1] at h2; injection h2 with h2; injection h2 with _ h2; exact h h2
end Go.Proofs.Ytngpkipblcihaaa
