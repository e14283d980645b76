/-
  Contracts of isBehind, sort.Search (at isBehind) and firstBehind: how many bookings end at a time or ahead of it.
-/
import Derived.Test.YtjdhjlhcdpekbaaSmall
import Derived.Deep.LoopGhost
import Derived.IntWalk
import Derived.Shelf.Abstract
namespace Go.Proofs.Ytjdhjlhcdpekbaa
open Go.RowKit Go.Shelf

set_option maxRecDepth 100000 in
theorem isBehind_any (l : List Kal.Bk) (a : Option Addr) (c : Nat) (t : Int) (i : Nat) (w : World) (h : BkA w a c l) (hi : i < l.length) :
    Calls Try.prog 78 #[.agg #[.slice a l.length c, .int .i64 t], .int .i64 (i : Int)] w fun e w' => e = .returned (.bool (decide (t < l[i].e))) ∧ Below w.heap.size w w' := by
  have hlen : l.length ≤ maxLen := Nat.le_trans h.1 h.2.1
  unfold maxLen at hlen
  obtain ⟨b, off, rfl, hb, hc⟩ := h.at (by omega)
  have c2 := (hc i hi).2.2.1
  generalize l[i].e = x at *
  have i0 : (0 : Int) ≤ (i : Int) := by omega
  have i1 : (i : Int) < (l.length : Int) := by omega
  clear hc h
  go_enter Try.func78, Try.ntmps78
  go_wp2_with fail
  go_quiet (fail)
  go_wp2_with fail
  go_ret
  exact ⟨rfl, below_drewN (below_new _ _) _⟩

set_option maxRecDepth 100000 in
set_option maxHeartbeats 1000000 in
theorem search_any (l : List Kal.Bk) (a : Option Addr) (c : Nat) (t : Int) (w : World) (h : BkA w a c l) (hs : Kal.Srt l) (hl : l.length ≤ 1000000) :
    Calls Try.prog 77 #[.int .i64 (l.length : Int), .func (.func 78) #[.agg #[.slice a l.length c, .int .i64 t]] #[]] w fun e w' => e = .returned (.int .i64 (Kal.fb l t : Int)) ∧ Below w.heap.size w w' := by
  have HF := Lib.hid (show ∀ (wr : World) (i : Nat) (hi : i < l.length), Below w.heap.size w wr → Calls Try.prog 78 #[.agg #[.slice a l.length c, .int .i64 t], .int .i64 (i : Int)] wr fun e w' => e = .returned (.bool (decide (Kal.fb l t ≤ i))) ∧ Below wr.heap.size wr w' from
    fun wr i hi hb => by rw [← Kal.fb_at hs i hi]; exact isBehind_any l a c t i wr (h.below hb) hi)
  have hk := Kal.fb_le l t
  have eg : ∀ args w, (callFunc 78 args).run Try.prog w = .ok (.enter 78 args) w := enters_of Try.func78 (by kernel_rfl) rfl
  generalize Kal.fb l t = k at *
  clear h hs
  generalize l.length = n at *
  go_enter Try.func77, Try.ntmps77
  go_wp2_with fail
  go_loopw [5, 6] (fun i j wr => ∃ lo hi : Nat, i = .int .i64 (lo : Int) ∧ j = .int .i64 (hi : Int) ∧ lo ≤ k ∧ k ≤ hi ∧ hi ≤ n ∧ Below w.heap.size w wr) (fun i j _ => (intOf j - intOf i).toNat)
  case atStart => exact ⟨0, n, rfl, rfl, by omega, hk, Nat.le_refl _, Below.refl _ _⟩
  case round =>
    obtain ⟨lo, hi, rfl, rfl, h1, h2, h3, hb⟩ := hrel
    by_cases hlt : lo < hi
    · have hc := HF.out wr ((lo + hi) / 2) (by omega) hb
      rw [show (((lo + hi) / 2 : Nat) : Int) = ((lo : Int) + (hi : Int)) / 2 by omega] at hc
      by_cases hp : k ≤ (lo + hi) / 2
      · rw [decide_eq_true hp] at hc
        have HC := Lib.hid hc; have HB := Lib.hid hb
        clear hc hb
        go_wp2_with fail
        refine HC.out.mono ?_; rintro e w1 ⟨rfl, g1⟩
        have G1 := Lib.hid (below_step HB.out g1); clear g1
        go_wp2_with fail
        go_roundw
        case rel => exact ⟨lo, (lo + hi) / 2, rfl, by go_num, h1, hp, by omega, G1.out⟩
        case measure => simp [intOf]; omega
      · rw [decide_eq_false hp] at hc
        have HC := Lib.hid hc; have HB := Lib.hid hb
        clear hc hb
        go_wp2_with fail
        refine HC.out.mono ?_; rintro e w1 ⟨rfl, g1⟩
        have G1 := Lib.hid (below_step HB.out g1); clear g1
        go_wp2_with fail
        go_roundw
        case rel => exact ⟨(lo + hi) / 2 + 1, hi, by go_num, rfl, by omega, h2, h3, G1.out⟩
        case measure => simp [intOf]; omega
    · obtain rfl : lo = k := by omega
      go_wp2_with fail
      go_ret
      exact ⟨rfl, hb⟩

theorem firstBehind_any (l : List Kal.Bk) (a : Option Addr) (c : Nat) (t : Int) (w : World) (h : BkA w a c l) (hs : Kal.Srt l) (hl : l.length ≤ 1000000) :
    Calls Try.prog 60 #[.slice a l.length c, .int .i64 t] w fun e w' => e = .returned (.int .i64 (Kal.fb l t : Int)) ∧ Below w.heap.size w w' := by
  have HS := Lib.hid (search_any l a c t w h hs hl)
  clear h hs
  generalize Kal.fb l t = k at *
  generalize l.length = n at *
  go_enter Try.func60, Try.ntmps60
  go_wp2_with fail
  refine HS.out.mono ?_; rintro e w1 ⟨rfl, g1⟩
  go_wp2_with fail
  go_ret
  exact ⟨rfl, g1⟩
end Go.Proofs.Ytjdhjlhcdpekbaa

