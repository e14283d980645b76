/-
  The contracts of wire.groups, of the iterator that it returns, and of wire.PutInt.
-/
import Derived.Test.YtnmjcjkjdbkpnaaDoorWaSmall
import Derived.RangeFuncBox
import Derived.RangeFuncNested
import Derived.RangeFuncBound
import Derived.RangeFuncCalls
import Derived.RangeFuncLeaves
import Derived.Shelf.Abstract
import Derived.Shelf.RegionOpen
import Derived.OwnWalkIn
import Derived.TacticsInMore
import Derived.LoopNIn
import Derived.LoopIn
import Derived.Maps.AppendAt
import Derived.Laws.IdiomStrings
namespace Go.Proofs.YtnmjcjkjdbkpnaaDoor.Wa
open Go.RowKit Go.Shelf

attribute [local go_sem] Oper.semAt_some

/-- What the iterator holds between two rounds: pre has been yielded, r is left, in at most k + 1 groups. -/
def Left (z : Nat) (pre : List UInt8) (k r : Nat) : Prop := Enc.enc z = pre ++ Enc.encF k r ∧ pre.length + k = 8 ∧ r < 128 ^ (k + 1)

theorem Left.start {z : Nat} (h : z < 9223372036854775808) : Left z [] 8 z := ⟨rfl, rfl, by rw [Enc.pow9]; exact h⟩
theorem Left.next {z : Nat} {pre : List UInt8} {k r : Nat} (h : Left z pre k r) (hr : 128 ≤ r) : ∃ k', k = k' + 1 ∧ Left z (pre ++ [UInt8.ofNat (r % 128 + 128)]) k' (r / 128) := by
  obtain ⟨h1, h2, h3⟩ := h
  cases k with
  | zero => simp at h3; omega
  | succ k =>
    refine ⟨k, rfl, ?_, by simp; omega, ?_⟩
    · rw [h1, Enc.encF, if_neg (by omega)]; simp
    · rw [Nat.pow_succ] at h3
      exact Nat.div_lt_of_lt_mul (by rw [Nat.mul_comm]; exact h3)
theorem Left.last {z : Nat} {pre : List UInt8} {k r : Nat} (h : Left z pre k r) (hr : r < 128) : Enc.enc z = pre ++ [UInt8.ofNat r] := by
  obtain ⟨h1, _, _⟩ := h
  rw [h1]
  cases k <;> simp [Enc.encF, hr]
theorem Left.len {z : Nat} {pre : List UInt8} {k r : Nat} (h : Left z pre k r) : pre.length < 9 := by
  obtain ⟨_, h2, _⟩ := h; omega

set_option maxRecDepth 100000 in
set_option maxHeartbeats 1000000 in
theorem groups1_in (F : Fence) (n : Nat) (hF : F.fn 64) (hro : F.round = none) (hn : 1 ≤ n) (l Bn n₀ : Nat) (z : Nat) (hz : z < 9223372036854775808) (J Jx : List UInt8 → World → Prop)
    (hY : ∀ pre x W, J pre W → pre.length < 9 → YieldAt F (n - 1) Tryd.prog l #[.int .u8 ((x.toNat : Nat) : Int)] W fun e W' =>
      (e = .returned (.bool true) ∧ J (pre ++ [x]) W' ∧ Below n₀ W W') ∨ (e = .returned (.bool false) ∧ Jx (pre ++ [x]) W'))
    (W : World) (hBn : W.cell? ⟨Bn, 0, none⟩ = some (.int .u64 (z : Int))) (h0 : J [] W) :
    CallsIn F n Tryd.prog 64 #[.func (.yield l) #[] #[], .pointer (some ⟨Bn, 0, none⟩)] W fun e W' => (∃ v, e = .returned v) ∧
      ((∃ ys, ys = Enc.enc z ∧ J ys W') ∨ (∃ pre, pre <+: Enc.enc z ∧ Jx pre W')) := by
  refine callsIn_of_wp Tryd.func64 rfl hF ?_ hro
  simp only [Tryd.ntmps64, List.size_toArray, List.length_cons, List.length_nil, Nat.reduceAdd, Nat.reduceSub, Array.replicate_succ, Array.replicate_zero, List.push_toArray, List.append_toArray, List.nil_append, List.cons_append]
  gi_wp2
  gi_loopw [3] (fun p wr => ∃ (pre : List UInt8) (k r : Nat), p = .int .u64 (r : Int) ∧ Left z pre k r ∧ r < 9223372036854775808 ∧ J pre wr)
    (fun p _ => (intOf p).toNat)
  case atStart => exact ⟨[], 8, z, rfl, Left.start hz, hz, h0⟩
  case round =>
    obtain ⟨pre, k, r, rfl, hL, hr, hJ⟩ := hrel
    have HL := Lib.hid hL; clear hL
    by_cases h : 128 ≤ r
    · obtain ⟨fn, tmps, assign, body, hy, hR⟩ := hY pre (UInt8.ofNat (r % 128 + 128)) wr hJ HL.out.len
      rw [Enc.toNat_small (by omega), show ((r % 128 + 128 : Nat) : Int) = bits BinOp.or IntKind.u8 ((r : Int) % 256) 128 by rw [u8_or128_any _ (by omega) (by omega)]; omega] at hy
      obtain ⟨k', rfl, HN⟩ := HL.out.next h
      have HN := Lib.hid HN
      gi_wp2
      refine hR.mono ?_
      rintro e W3 (⟨rfl, hJ3, hk3⟩ | ⟨rfl, hJx3⟩)
      · gi_wp2
        go_roundw
        case rel => exact ⟨pre ++ [UInt8.ofNat (r % 128 + 128)], k', r / 128, by simp, HN.out, by omega, hJ3⟩
        case measure => simp [intOf]; omega
      · gi_wp2
        refine bodyPost_ret (results_none rfl _ _ _) rfl ?_
        refine ⟨⟨_, rfl⟩, .inr ⟨_, ?_, hJx3⟩⟩
        exact ⟨_, HN.out.1.symm⟩
    · obtain ⟨fn, tmps, assign, body, hy, hR⟩ := hY pre (UInt8.ofNat r) wr hJ HL.out.len
      rw [Enc.toNat_small (by omega)] at hy
      have hb : IntKind.u8.wrap (r : Int) = (r : Int) := by rw [IntKind.wrap_u8]; omega
      have HE := Lib.hid (HL.out.last (by omega))
      gi_wp2
      refine hR.mono ?_
      rintro e W3 (⟨rfl, hJ3, hk3⟩ | ⟨rfl, hJx3⟩)
      · gi_wp2
        go_end0
        exact ⟨⟨_, rfl⟩, .inl ⟨_, HE.out.symm, hJ3⟩⟩
      · gi_wp2
        go_end0
        exact ⟨⟨_, rfl⟩, .inr ⟨_, by rw [HE.out]; exact List.prefix_rfl, hJx3⟩⟩

theorem groups_in (F : Fence) (n : Nat) (hF : F.fn 59) (hro : F.round = none) (z : Nat) (w : World) :
    CallsIn F n Tryd.prog 59 #[.int .u64 (z : Int)] w fun e w' => e = .returned (.func (.func 64) #[] #[.pointer (some ⟨w.heap.size, 0, none⟩)]) ∧ w' = w.alloc (.cells #[.int .u64 (z : Int)] 66) := by
  refine callsIn_of_wp Tryd.func59 rfl hF ?_ hro
  simp only [Tryd.ntmps59, List.size_toArray, List.length_cons, List.length_nil, Nat.reduceAdd, Nat.reduceSub, Array.replicate_succ, Array.replicate_zero, List.push_toArray, List.append_toArray, List.nil_append, List.cons_append]
  gi_wp2
  go_ret
  exact ⟨rfl, rfl⟩

theorem groups_stops (F : Fence) (n : Nat) (hF : F.fn 64) (hro : F.round = none) (hn : 1 ≤ n) (Bn n₀ : Nat) (z : Nat) (hz : z < 9223372036854775808) (w : World) (hBn : Bn < w.heap.size)
    (hc : w.cell? ⟨Bn, 0, none⟩ = some (.int .u64 (z : Int))) :
    SeqStopsK F n Tryd.prog 64 #[.pointer (some ⟨Bn, 0, none⟩)] (fun x : UInt8 => #[Value.int .u8 ((x.toNat : Nat) : Int)]) (Below n₀) (fun ys => ys = Enc.enc z) (fun pre => pre <+: Enc.enc z) 9 w := fun l J Jx W hW _ _ hY h0 =>
  groups1_in F n hF hro hn l Bn n₀ z hz J Jx hY W ((hW.cell (p := ⟨Bn, 0, none⟩) hBn).trans hc) h0

end Go.Proofs.YtnmjcjkjdbkpnaaDoor.Wa

