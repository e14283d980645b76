/-
  Contracts of standing and of a table's refutes.
-/
import Derived.Test.YtiolmcnngpaapaaTb
namespace Go.Proofs.Ytiolmcnngpaapaa
open Go.RowKit Go.Shelf Cy

set_option maxRecDepth 100000 in
set_option maxHeartbeats 1000000 in
theorem standing_any (n : Nat) (hn1 : 1 ≤ n) (hn : n ≤ 32) (w : World) : Calls Try.prog 85 #[.int .i64 (n : Int)] w (TabPost n (fun i j => if i = j then 0 else (-1099511627776)) w) := by
  have HE := Lib.hid (emptyTable_any n hn1 hn w)
  have n0 : (0 : Int) ≤ (n : Int) := by omega
  have n1 : (n : Int) ≤ 32 := by omega
  go_enter Try.func85, Try.ntmps85
  go_wp2_with fail
  refine HE.out.mono ?_
  rintro _ w1 ⟨g, r, rfl, hT, hB⟩
  have HT := Lib.hid hT; have HB := Lib.hid hB
  clear hT hB HE
  go_wp2_with fail
  go_loopw [10] (fun i wr => ∃ k : Nat, k ≤ n ∧ i = .int .i64 (k : Int) ∧ Hid (TabAt wr w.heap.size g n r (fun i j => if i = j ∧ i < k then 0 else (-1099511627776))) ∧ Hid (Below w.heap.size w wr)) (fun i _ => n - (intOf i).toNat)
  case atStart => exact ⟨0, Nat.zero_le _, rfl, Lib.hid (HT.out.congr (fun i j _ _ => by rw [if_neg (by omega)])), HB⟩
  case round =>
    clear HT HB
    obtain ⟨k, hk, rfl, HT, HB⟩ := hrel
    by_cases hlt : k < n
    · have k1 : (k : Int) < (n : Int) := by omega
      have k0 : (0 : Int) ≤ (k : Int) := by omega
      obtain ⟨c0, hc⟩ := HT.out.cells hlt
      obtain ⟨c1, z1⟩ := hc k hlt
      have hl := lt_of_block (HT.out.row k hlt hlt)
      have hlow := HT.out.low.2 k hlt hlt
      have HT2 := Lib.hid (show TabAt (wr.setCell ⟨r k, k, none⟩ (.int .i64 0)) w.heap.size g n r (fun i j => if i = j ∧ i < k + 1 then 0 else (-1099511627776)) from
        (HT.out.set hlt (j := k) 0).congr (fun i j hi hj => by
          by_cases e1 : i = k ∧ j = k
          · rw [if_pos e1, if_pos (by omega)]
          · rw [if_neg e1]
            by_cases e2 : i = j ∧ i < k
            · rw [if_pos e2, if_pos (by omega)]
            · rw [if_neg e2, if_neg (by omega)]))
      have HB2 := Lib.hid (HB.out.setCell hlow (.int .i64 0) (p := ⟨r k, k, none⟩))
      clear hc
      go_wp2_with fail
      go_roundw
      case rel => exact ⟨k + 1, hlt, by go_num, HT2, HB2⟩
      case measure => simp [intOf]; omega
    · obtain rfl : k = n := by omega
      have k1 : ¬ (k : Int) < (k : Int) := by omega
      go_wp2_with fail
      go_ret
      exact ⟨g, r, rfl, HT.out.congr (fun i j hi hj => by
        by_cases e : i = j
        · rw [if_pos e, if_pos ⟨e, hi⟩]
        · rw [if_neg e, if_neg (by omega)]), HB.out⟩
def diag (n : Nat) (f : Nat → Nat → Int) : Bool := (List.range n).any fun i => decide (0 < f i i)
set_option maxRecDepth 100000 in
set_option maxHeartbeats 1000000 in
theorem refutes_any (n : Nat) (hn : n ≤ 32) (B g : Nat) (r : Nat → Nat) (f : Nat → Nat → Int) (w : World) (h : TabAt w B g n r f) : Calls Try.prog 86 #[rowV g n] w fun e w' => e = .returned (.bool (diag n f)) ∧ w = w' := by
  have HT := Lib.hid h
  have n1 : (n : Int) ≤ 32 := by omega
  clear h
  go_enter Try.func86, Try.ntmps86
  go_wp2_with fail
  go_loop [7] (fun i => ∃ k : Nat, k ≤ n ∧ i = .int .i64 (k : Int) ∧ Hid (∀ i, i < k → ¬ 0 < f i i)) (fun i => n - (intOf i).toNat)
  case atStart => exact ⟨0, Nat.zero_le _, rfl, Lib.hid (fun i hi => by omega)⟩
  case round =>
    obtain ⟨k, hk, rfl, HF⟩ := hrel
    by_cases hlt : k < n
    · have k1 : (k : Int) < (n : Int) := by omega
      have k0 : (0 : Int) ≤ (k : Int) := by omega
      obtain ⟨c0, hc⟩ := HT.out.cells hlt
      obtain ⟨c1, -⟩ := hc k hlt
      clear hc
      by_cases hp : 0 < f k k
      · have HR := Lib.hid (show diag n f = true from by unfold diag; rw [List.any_eq_true]; exact ⟨k, List.mem_range.2 hlt, by simpa using hp⟩)
        generalize f k k = v at *
        go_wp2_with fail
        go_ret
        exact ⟨ret_bool HR.out.symm, rfl⟩
      · have HR := Lib.hid (show ∀ i, i < k + 1 → ¬ 0 < f i i from fun i hi => by
          by_cases e : i = k
          · subst e; exact hp
          · exact HF.out i (by omega))
        generalize f k k = v at *
        go_wp2_with fail
        go_round
        case rel => exact ⟨k + 1, hlt, by go_num, HR⟩
        case measure => simp [intOf]; omega
    · have k1 : ¬ (k : Int) < (n : Int) := by omega
      have HR := Lib.hid (show diag n f = false from by unfold diag; rw [List.any_eq_false]; intro i hi; have := HF.out i (by have := List.mem_range.1 hi; omega); simpa using this)
      go_wp2_with fail
      go_ret
      exact ⟨ret_bool HR.out.symm, rfl⟩
end Go.Proofs.Ytiolmcnngpaapaa

