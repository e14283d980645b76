/-
  The library's contracts that layer 2's code calls by: bits.Len, slices.Reverse at strings; and the package's split.
-/
import Derived.Test.YtbaggjhjkignkaaDoorHelp
import Derived.Shelf.Small.Bits
import Derived.Shelf.Slices.ReverseS
import Derived.Lib.OwnBridge
namespace Go.Proofs.YtbaggjhjkignkaaDoor
open Go.RowKit Go.Shelf Tree Go.Sort Go.Lib

def lenRen : Ren := ⟨fun | 125 => 50 | 128 => 56 | 129 => 57 | n => n, fun | 46 => 44 | 3 => 3 | 51 => 39 | 53 => 76 | 4 => 4 | 5 => 5 | 9 => 9 | n => n, fun | n => n⟩
theorem lenLays : Lays.n125 Tryd.prog lenRen := {
  mixed := by kernel_rfl, f125 := Tryd.func50.trans (congrArg some (by kernel_rfl)), f128 := Tryd.func56.trans (congrArg some (by kernel_rfl)), f129 := Tryd.func57.trans (congrArg some (by kernel_rfl)),
  t3 := Tryd.underlying3, a3 := Tryd.isAgg3, z3 := Tryd.sizeOf3, v3 := Tryd.zeroValue3,
  t4 := Tryd.underlying4, a4 := Tryd.isAgg4, z4 := Tryd.sizeOf4, v4 := Tryd.zeroValue4,
  t5 := Tryd.underlying5, a5 := Tryd.isAgg5, z5 := Tryd.sizeOf5, v5 := Tryd.zeroValue5,
  t9 := Tryd.underlying9, a9 := Tryd.isAgg9, z9 := Tryd.sizeOf9, v9 := Tryd.zeroValue9,
  t46 := Tryd.underlying44, a46 := Tryd.isAgg44, z46 := Tryd.sizeOf44, v46 := Tryd.zeroValue44,
  t51 := Tryd.underlying39, a51 := Tryd.isAgg39, z51 := Tryd.sizeOf39, v51 := Tryd.zeroValue39,
  t53 := Tryd.underlying76, a53 := Tryd.isAgg76, z53 := Tryd.sizeOf76, v53 := Tryd.zeroValue76 }
theorem len_any (x : Int) (w : World) (h0 : 0 ≤ x) (h1 : x ≤ 18446744073709551615) :
    Calls Tryd.prog 50 #[.int .u64 x] w fun e w' => e = .returned (.int .i64 (Lib.bitLen x.toNat)) ∧ w' = w := Any.bits_Len lenLays x w h0 h1

def revRen : Ren := ⟨fun | 17 => 32 | n => n, fun | 24 => 26 | 9 => 9 | 3 => 3 | 4 => 4 | 0 => 0 | n => n, fun | n => n⟩
theorem revLays : Lays2.n17 Tryd.prog revRen := {
  mixed := by kernel_rfl, f17 := Tryd.func32.trans (congrArg some (by kernel_rfl)),
  t0 := Tryd.underlying0, a0 := Tryd.isAgg0, z0 := Tryd.sizeOf0, v0 := Tryd.zeroValue0,
  t3 := Tryd.underlying3, a3 := Tryd.isAgg3, z3 := Tryd.sizeOf3, v3 := Tryd.zeroValue3,
  t4 := Tryd.underlying4, a4 := Tryd.isAgg4, z4 := Tryd.sizeOf4, v4 := Tryd.zeroValue4,
  t9 := Tryd.underlying9, a9 := Tryd.isAgg9, z9 := Tryd.sizeOf9, v9 := Tryd.zeroValue9,
  t24 := Tryd.underlying26, a24 := Tryd.isAgg26, z24 := Tryd.sizeOf26, v24 := Tryd.zeroValue26 }
theorem reverse_any (blk off cap : Nat) (zs : List (List UInt8)) (w : World) (hH : Sort.Holds encStr w blk off zs.toArray) (hsz : zs.length ≤ 9223372036854775807) :
    Calls Tryd.prog 32 #[.slice (some ⟨blk, off, none⟩) zs.length cap] w fun e w' => e = .returned (.tuple #[]) ∧ ∃ n, w' = Sort.putRow encStr (Sort.ahead w n) blk off zs.reverse.toArray := Any.slices_Reverse_string revLays blk off cap zs w hH hsz
theorem reverse_none (a : Option Addr) (cap : Nat) (w : World) :
    Calls Tryd.prog 32 #[.slice a 0 cap] w fun e w' => e = .returned (.tuple #[]) ∧ w' = w := Any.slices_Reverse_string_empty revLays a cap w

theorem strV_enc (L : List ByteArray) : strV L = (L.map fun s => s.data.toList).map encStr := by
  unfold strV; rw [List.map_map]; rfl
/-- slices.Reverse at a row of strings of the call's own. -/
theorem reverse_own (L : List ByteArray) (n₀ : Nat) (v : Value) (w : World) (h : w.ownsRow n₀ 9 1 v L.length (strV L)) (hl : L.length < 1000000) :
    Calls Tryd.prog 32 #[v] w fun e w' => e = .returned (.tuple #[]) ∧ w'.ownsRow n₀ 9 1 v L.length (strV L.reverse) ∧ w.grownBy w' v.ownBlock := by
  by_cases hv : v = .slice none 0 0
  · subst hv
    have h0 : L.length = 0 := by
      rcases h.2 with ⟨_, h0⟩ | ⟨g, cap, cur, e, _⟩
      · exact h0
      · cases e
    obtain rfl := List.length_eq_zero_iff.1 h0
    refine (reverse_none none 0 w).mono ?_
    rintro e w' ⟨rfl, rfl⟩
    exact ⟨rfl, h, ⟨rfl, rfl, rfl, Nat.le_refl _, fun _ _ _ => rfl⟩⟩
  · rw [strV_enc] at h
    obtain ⟨g, cap, rfl, q1, q2, q3, q4, q5, q6⟩ := holds_of_ownsRow h hv
    have hc := reverse_any g 0 cap (L.map fun s => s.data.toList) w q6 (by omega)
    rw [List.length_map] at hc
    refine hc.mono ?_
    rintro e w' ⟨rfl, q, rfl⟩
    refine ⟨rfl, ?_, ⟨rfl, rfl, rfl, by simp [putRow, mapBlock, Sort.ahead], fun k hk hne => ?_⟩⟩
    · have := ownsRow_putRow (q := q) (k := L.length) (ys := (L.map fun s => s.data.toList).reverse) h (by simp) (Nat.le_refl _)
      rw [List.take_of_length_le (by simp), ← List.map_reverse, ← strV_enc] at this
      rw [← List.map_reverse]
      exact this
    · have hk' : g ≠ k := fun e => hne (by rw [← e]; rfl)
      simp [putRow, mapBlock, Sort.ahead, Array.getElem?_modify, hk']

theorem bitLenAux_log : ∀ (f x : Nat), 1 ≤ x → x < 2 ^ f → Lib.bitLenAux f x = x.log2 + 1
  | 0, x, h, h1 => by simp at h1; omega
  | f + 1, x, h, h1 => by
    rw [Lib.bitLenAux, if_neg (by omega)]
    by_cases h2 : 2 ≤ x
    · rw [bitLenAux_log f (x / 2) (by omega) (by rw [Nat.pow_succ] at h1; omega), Nat.log2_def x, if_pos h2]; omega
    · obtain rfl : x = 1 := by omega
      cases f <;> rfl
theorem bitLen_log (x : Nat) (h : 1 ≤ x) (h1 : x < 18446744073709551616) : Lib.bitLen x = x.log2 + 1 := bitLenAux_log 64 x h (by omega)

set_option maxRecDepth 100000 in
set_option maxHeartbeats 400000 in
theorem split_any (n : Nat) (w : World) (h2 : 2 ≤ n) (hn : n < 9223372036854775808) :
    Calls Tryd.prog 37 #[.int .i64 n] w fun e w' => e = .returned (.int .i64 (leftN n : Nat)) ∧ w = w' := by
  have hlt := leftN_lt h2
  have hlog : (n - 1).log2 < 63 := by
    by_cases h : n - 1 = 0
    · omega
    · exact (Nat.log2_lt h).2 (by omega)
  have hl : Lib.bitLen (n - 1) = (n - 1).log2 + 1 := bitLen_log _ (by omega) (by omega)
  have hc := len_any ((n : Int) - 1) w (by omega) (by omega)
  rw [show ((n : Int) - 1).toNat = n - 1 by omega, hl] at hc
  have HC := Lib.hid hc
  have hv : (leftN n : Nat) = 2 ^ (n - 1).log2 := rfl
  rw [hv] at hlt ⊢
  clear hc hl hv
  generalize (n - 1).log2 = j at *
  go_enter Tryd.func37, Tryd.ntmps37
  go_wp2_with fail
  refine HC.out.mono ?_
  rintro e w' ⟨rfl, rfl⟩
  go_wp2_with fail
  go_ret
  have hp : wrap64 ((2 : Int) ^ j) = ((2 ^ j : Nat) : Int) := by
    have hpos := Nat.two_pow_pos j
    have : ((2 : Int) ^ j) = ((2 ^ j : Nat) : Int) := by simp
    rw [this]; exact IntWalk.wrap64_in _ ⟨by omega, by omega⟩
  refine ⟨?_, rfl⟩
  show Ending.returned (Value.int IntKind.i64 (wrap64 ((2 : Int) ^ j))) = _
  rw [hp]
end Go.Proofs.YtbaggjhjkignkaaDoor

