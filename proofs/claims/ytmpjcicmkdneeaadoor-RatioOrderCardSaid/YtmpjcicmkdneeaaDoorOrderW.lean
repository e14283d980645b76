/-
  The walk of RatioOrder: Compare is a total order that agrees with differences.
-/
import Derived.Test.YtmpjcicmkdneeaaDoorOrdK1
import Derived.Test.YtmpjcicmkdneeaaDoorOrdK2
import Derived.Test.YtmpjcicmkdneeaaDoorOrdK3
import Derived.Test.YtmpjcicmkdneeaaDoorOrdK4
import Derived.Test.YtmpjcicmkdneeaaDoorOrdK5
namespace Go.Proofs.YtmpjcicmkdneeaaDoor
open Go.RowKit Go.Shelf

theorem cmpR_three {an ad bn bd : Int} (ha : Ra.Ok an ad) (hb : Ra.Ok bn bd) :
    (cmpR an ad bn bd = -1 ∧ cmpR bn bd an ad = 1 ∧ an * bd < bn * ad) ∨ (cmpR an ad bn bd = 0 ∧ cmpR bn bd an ad = 0 ∧ an * bd = bn * ad) ∨ (cmpR an ad bn bd = 1 ∧ cmpR bn bd an ad = -1 ∧ bn * ad < an * bd) := by
  have e1 : cmpR an ad bn bd = (if an * bd < bn * ad then -1 else if bn * ad < an * bd then 1 else 0) := if_pos ⟨ha, hb⟩
  have e2 : cmpR bn bd an ad = (if bn * ad < an * bd then -1 else if an * bd < bn * ad then 1 else 0) := if_pos ⟨hb, ha⟩
  rw [e1, e2]
  by_cases h : an * bd < bn * ad
  · have h' : ¬ bn * ad < an * bd := by omega
    exact .inl ⟨if_pos h, by rw [if_neg h', if_pos h], h⟩
  · by_cases h' : bn * ad < an * bd
    · exact .inr (.inr ⟨by rw [if_neg h, if_pos h'], if_pos h', h'⟩)
    · exact .inr (.inl ⟨by rw [if_neg h, if_neg h'], by rw [if_neg h', if_neg h], by omega⟩)

set_option maxRecDepth 100000 in
set_option maxHeartbeats 2000000 in
theorem ordW_none (a b c d e f : Int) (w : World) (ad : Addr) (ht : Tab ad w) (fa : Fits a ∧ Fits b) (fc : Fits c ∧ Fits d) (fe : Fits e ∧ Fits f) (h : Ra.red a b = none ∨ Ra.red c d = none ∨ Ra.red e f = none) :
    Calls Tryd.prog 7 #[pairsV a b c d e f] w fun e' w' => e' = .returned (.bool true) ∧ Below w.heap.size w w' := by
  have hs := fun w ht => sane_any w ad ht
  have hm := fun w ht => made_none a b c d e f w ad ht fa fc fe h
  have HS := Lib.hid hs; have HM := Lib.hid hm; have T0 := Lib.hid ht
  clear hs hm ht fa fc fe h
  have R0 := Lib.hid (SixAt.new w 33 a b c d e f)
  go_enter Tryd.func7, Tryd.ntmps7
  go_wp2_with fail
  have Lc := Lib.hid (below_new w (.cells #[.int .i64 a, .int .i64 b, .int .i64 c, .int .i64 d, .int .i64 e, .int .i64 f] 33))
  have X := R0
  refine (HS.out _ (T0.out.below Lc.out)).mono ?_; rintro e w1 ⟨rfl, g1⟩
  have Lc := Lib.hid (below_step Lc.out g1)
  have X := Lib.hid (X.out.below g1)
  have X0 := X.out.c0
  have X1 := X.out.c1
  have X2 := X.out.c2
  have X3 := X.out.c3
  have X4 := X.out.c4
  have X5 := X.out.c5
  go_wp2_with fail
  clear X0 X1 X2 X3 X4 X5
  refine (HM.out _ (T0.out.below Lc.out)).mono ?_; rintro e' w2 ⟨p0, q0, p1, q1, p2, q2, rfl, g2⟩
  have Lc := Lib.hid (below_step Lc.out g2)
  have Lc := Lib.hid (below_step Lc.out (below_new w2 (.cells #[.int .i64 p0, .int .i64 q0, .int .i64 p1, .int .i64 q1, .int .i64 p2, .int .i64 q2] 34)))
  go_wp2_with fail
  go_ret
  exact ⟨rfl, Lc.out⟩

theorem ordW_some (a b c d e f p0 q0 p1 q1 p2 q2 : Int) (w : World) (ad : Addr) (ht : Tab ad w) (fa : Fits a ∧ Fits b) (fc : Fits c ∧ Fits d) (fe : Fits e ∧ Fits f) (h0 : Ra.red a b = some (p0, q0)) (h1 : Ra.red c d = some (p1, q1)) (h2 : Ra.red e f = some (p2, q2)) :
    Calls Tryd.prog 7 #[pairsV a b c d e f] w fun e' w' => e' = .returned (.bool true) ∧ Below w.heap.size w w' := by
  have o0 := (Ra.red_ok h0).1; have o1 := (Ra.red_ok h1).1; have o2 := (Ra.red_ok h2).1
  have sg : ∀ sn sd, subR p1 q1 p0 q0 = some (sn, sd) → (0 < sn ↔ p0 * q1 < p1 * q0) ∧ (sn = 0 ↔ p0 * q1 = p1 * q0) := fun sn sd h => by
    have e1 : subR p1 q1 p0 q0 = Ra.red (p1 * q0 - p0 * q1) (q1 * q0) := if_pos ⟨o1, o0⟩
    rw [e1] at h; exact Ra.sub_sign o0 o1 h
  rcases cmpR_three o0 o1 with ⟨c1, c2, hl⟩ | ⟨c1, c2, hl⟩ | ⟨c1, c2, hl⟩
  · have ne : ¬ (p0 = p1 ∧ q0 = q1) := fun ⟨h, h'⟩ => by subst h; subst h'; omega
    by_cases hB : 0 < cmpR p1 q1 p2 q2
    · cases h3 : subR p1 q1 p0 q0 with
      | none => exact ordW_K4_n a b c d e f p0 q0 p1 q1 p2 q2 w ad ht fa fc fe _ _ c1 c2 rfl rfl hB ne h3 h0 h1 h2
      | some x => exact ordW_K4_s a b c d e f p0 q0 p1 q1 p2 q2 w ad ht fa fc fe _ _ c1 c2 rfl rfl hB ne x.1 x.2 h3 ((sg _ _ h3).1.2 hl) h0 h1 h2
    · have hC : cmpR p0 q0 p2 q2 < 0 := by
        have hle : p1 * q2 ≤ p2 * q1 := by rcases cmpR_three o1 o2 with ⟨k, _, h⟩ | ⟨k, _, h⟩ | ⟨k, _, h⟩ <;> omega
        have := Ra.cmp_trans_lt (Ra.pos_of o0) (Ra.pos_of o1) (Ra.pos_of o2) hl hle
        rcases cmpR_three o0 o2 with ⟨k, _, h⟩ | ⟨k, _, h⟩ | ⟨k, _, h⟩ <;> omega
      cases h3 : subR p1 q1 p0 q0 with
      | none => exact ordW_K5_n a b c d e f p0 q0 p1 q1 p2 q2 w ad ht fa fc fe _ _ c1 c2 rfl rfl (by omega) hC ne h3 h0 h1 h2
      | some x => exact ordW_K5_s a b c d e f p0 q0 p1 q1 p2 q2 w ad ht fa fc fe _ _ c1 c2 rfl rfl (by omega) hC ne x.1 x.2 h3 ((sg _ _ h3).1.2 hl) h0 h1 h2
  · obtain ⟨e1, e2⟩ := Ra.ok_eq o0 o1 hl
    subst e1; subst e2
    by_cases hB : 0 < cmpR p0 q0 p2 q2
    · cases h3 : subR p0 q0 p0 q0 with
      | none => exact ordW_K2_n a b c d e f p0 q0 p2 q2 w ad ht fa fc fe _ _ c1 c2 rfl rfl hB h3 h0 h1 h2
      | some x => exact ordW_K2_s a b c d e f p0 q0 p2 q2 w ad ht fa fc fe _ _ c1 c2 rfl rfl hB x.1 x.2 h3 ((sg _ _ h3).2.2 hl) h0 h1 h2
    · cases h3 : subR p0 q0 p0 q0 with
      | none => exact ordW_K3_n a b c d e f p0 q0 p2 q2 w ad ht fa fc fe _ _ c1 c2 rfl rfl (by omega) (by omega) h3 h0 h1 h2
      | some x => exact ordW_K3_s a b c d e f p0 q0 p2 q2 w ad ht fa fc fe _ _ c1 c2 rfl rfl (by omega) (by omega) x.1 x.2 h3 ((sg _ _ h3).2.2 hl) h0 h1 h2
  · have ne : ¬ (p0 = p1 ∧ q0 = q1) := fun ⟨h, h'⟩ => by subst h; subst h'; omega
    cases h3 : subR p1 q1 p0 q0 with
    | none => exact ordW_K1_n a b c d e f p0 q0 p1 q1 p2 q2 w ad ht fa fc fe _ _ c1 c2 rfl rfl ne h3 h0 h1 h2
    | some x =>
      have hS : x.1 < 0 := by have := sg _ _ h3; omega
      exact ordW_K1_s a b c d e f p0 q0 p1 q1 p2 q2 w ad ht fa fc fe _ _ c1 c2 rfl rfl ne x.1 x.2 h3 hS h0 h1 h2

theorem ratioOrder_any (a b c d e f : Int) (w : World) (ht : ∃ ad, Tab ad w) (f0 : Fits a) (f1 : Fits b) (f2 : Fits c) (f3 : Fits d) (f4 : Fits e) (f5 : Fits f) :
    Calls Tryd.prog 7 #[pairsV a b c d e f] w fun e' w' => e' = .returned (.bool true) ∧ Below w.heap.size w w' := by
  obtain ⟨ad, ht⟩ := ht
  cases h0 : Ra.red a b with
  | none => exact ordW_none a b c d e f w ad ht ⟨f0, f1⟩ ⟨f2, f3⟩ ⟨f4, f5⟩ (.inl h0)
  | some x =>
    cases h1 : Ra.red c d with
    | none => exact ordW_none a b c d e f w ad ht ⟨f0, f1⟩ ⟨f2, f3⟩ ⟨f4, f5⟩ (.inr (.inl h1))
    | some y =>
      cases h2 : Ra.red e f with
      | none => exact ordW_none a b c d e f w ad ht ⟨f0, f1⟩ ⟨f2, f3⟩ ⟨f4, f5⟩ (.inr (.inr h2))
      | some z =>
        obtain ⟨p0, q0⟩ := x; obtain ⟨p1, q1⟩ := y; obtain ⟨p2, q2⟩ := z
        exact ordW_some a b c d e f p0 q0 p1 q1 p2 q2 w ad ht ⟨f0, f1⟩ ⟨f2, f3⟩ ⟨f4, f5⟩ h0 h1 h2
end Go.Proofs.YtmpjcicmkdneeaaDoor
