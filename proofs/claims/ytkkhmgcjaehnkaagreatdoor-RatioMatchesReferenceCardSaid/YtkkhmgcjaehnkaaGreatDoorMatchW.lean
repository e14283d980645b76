/-
  The walk of RatioMatchesReference: all functions of fractions agree with the reference's.
-/
import Derived.Test.YtkkhmgcjaehnkaaGreatDoorRefN
import Derived.Test.YtkkhmgcjaehnkaaGreatDoorSane
namespace Go.Proofs.YtkkhmgcjaehnkaaGreatDoor
open Go.RowKit Go.Shelf

theorem ratRes_gen (r : Option (Int × Int)) : ∃ p q x : Int, ratRes r = .tuple #[ratV p q, .int .i64 x] := by
  cases r with
  | none => exact ⟨0, 0, 30, rfl⟩
  | some y => exact ⟨y.1, y.2, 0, rfl⟩
theorem Make_both (n d : Int) (a : Addr) (fn : Fits n) (fd : Fits d) : ∃ p q x : Int, (Fits p ∧ Fits q) ∧
    (∀ w, Tab a w → Calls Tryz.prog 5 #[.int .i64 n, .int .i64 d] w fun e w' => e = .returned (.tuple #[ratV p q, .int .i64 x]) ∧ Below w.heap.size w w') ∧
    (∀ w, Calls Tryz.prog 6 #[.int .i64 n, .int .i64 d] w fun e w' => e = .returned (.tuple #[ratV p q, .int .i64 x]) ∧ Below w.heap.size w w') := by
  have h1 := fun w (ht : Tab a w) => Make_any n d w a ht.err fn fd
  have h2 := fun w => refMake_any n d w fn fd
  cases h : Ra.red n d with
  | none => rw [h] at h1 h2; exact ⟨0, 0, 30, ⟨⟨by omega, by omega⟩, ⟨by omega, by omega⟩⟩, h1, h2⟩
  | some y => rw [h] at h1 h2; exact ⟨y.1, y.2, 0, ok_fits (Ra.red_ok h).1, h1, h2⟩
theorem Add_both (an ad bn bd : Int) (a : Addr) (fa : Fits an ∧ Fits ad) (fb : Fits bn ∧ Fits bd) : ∃ p q x : Int,
    (∀ w, Tab a w → Calls Tryz.prog 8 #[ratV an ad, ratV bn bd] w fun e w' => e = .returned (.tuple #[ratV p q, .int .i64 x]) ∧ Below w.heap.size w w') ∧
    (∀ w, Calls Tryz.prog 9 #[ratV an ad, ratV bn bd] w fun e w' => e = .returned (.tuple #[ratV p q, .int .i64 x]) ∧ Below w.heap.size w w') := by
  have h1 := fun w (ht : Tab a w) => Add_any an ad bn bd w a ht.err fa fb
  have h2 := fun w => refAdd_any an ad bn bd w fa fb
  obtain ⟨p, q, x, h⟩ := ratRes_gen (addR an ad bn bd)
  rw [h] at h1 h2; exact ⟨p, q, x, h1, h2⟩
theorem Sub_both (an ad bn bd : Int) (a : Addr) (fa : Fits an ∧ Fits ad) (fb : Fits bn ∧ Fits bd) : ∃ p q x : Int,
    (∀ w, Tab a w → Calls Tryz.prog 10 #[ratV an ad, ratV bn bd] w fun e w' => e = .returned (.tuple #[ratV p q, .int .i64 x]) ∧ Below w.heap.size w w') ∧
    (∀ w, Calls Tryz.prog 11 #[ratV an ad, ratV bn bd] w fun e w' => e = .returned (.tuple #[ratV p q, .int .i64 x]) ∧ Below w.heap.size w w') := by
  have h1 := fun w (ht : Tab a w) => Sub_any an ad bn bd w a ht.err fa fb
  have h2 := fun w => refSub_any an ad bn bd w fa fb
  obtain ⟨p, q, x, h⟩ := ratRes_gen (subR an ad bn bd)
  rw [h] at h1 h2; exact ⟨p, q, x, h1, h2⟩
theorem Mul_both (an ad bn bd : Int) (a : Addr) (fa : Fits an ∧ Fits ad) (fb : Fits bn ∧ Fits bd) : ∃ p q x : Int,
    (∀ w, Tab a w → Calls Tryz.prog 12 #[ratV an ad, ratV bn bd] w fun e w' => e = .returned (.tuple #[ratV p q, .int .i64 x]) ∧ Below w.heap.size w w') ∧
    (∀ w, Calls Tryz.prog 13 #[ratV an ad, ratV bn bd] w fun e w' => e = .returned (.tuple #[ratV p q, .int .i64 x]) ∧ Below w.heap.size w w') := by
  have h1 := fun w (ht : Tab a w) => Mul_any an ad bn bd w a ht.err fa fb
  have h2 := fun w => refMul_any an ad bn bd w fa fb
  obtain ⟨p, q, x, h⟩ := ratRes_gen (mulR an ad bn bd)
  rw [h] at h1 h2; exact ⟨p, q, x, h1, h2⟩
theorem Div_both (an ad bn bd : Int) (a : Addr) (fa : Fits an ∧ Fits ad) (fb : Fits bn ∧ Fits bd) : ∃ p q x : Int,
    (∀ w, Tab a w → Calls Tryz.prog 14 #[ratV an ad, ratV bn bd] w fun e w' => e = .returned (.tuple #[ratV p q, .int .i64 x]) ∧ Below w.heap.size w w') ∧
    (∀ w, Calls Tryz.prog 15 #[ratV an ad, ratV bn bd] w fun e w' => e = .returned (.tuple #[ratV p q, .int .i64 x]) ∧ Below w.heap.size w w') := by
  have h1 := fun w (ht : Tab a w) => Div_any an ad bn bd w a ht.err fa fb
  have h2 := fun w => refDiv_any an ad bn bd w fa fb
  obtain ⟨p, q, x, h⟩ := ratRes_gen (divR an ad bn bd)
  rw [h] at h1 h2; exact ⟨p, q, x, h1, h2⟩
theorem Round_both (n q d : Int) (a : Addr) (fa : Fits n ∧ Fits q) : ∃ p r x : Int,
    (∀ w, Tab a w → Calls Tryz.prog 16 #[ratV n q, .int .i64 d] w fun e w' => e = .returned (.tuple #[ratV p r, .int .i64 x]) ∧ Below w.heap.size w w') ∧
    (∀ w, Calls Tryz.prog 17 #[ratV n q, .int .i64 d] w fun e w' => e = .returned (.tuple #[ratV p r, .int .i64 x]) ∧ Below w.heap.size w w') := by
  have h1 := fun w (ht : Tab a w) => Round_any n q d w a ht.err fa
  have h2 := fun w => refRound_any n q d w fa
  obtain ⟨p, r, x, h⟩ := ratRes_gen (roundR n q d)
  rw [h] at h1 h2; exact ⟨p, r, x, h1, h2⟩

/-- Four numbers in a block of their own. -/
structure QuadAt (W : World) (A : Nat) (a b c d : Int) : Prop where
  lt : A < W.heap.size
  c0 : W.cell? ⟨A, 0, none⟩ = some (.int .i64 a)
  c1 : W.cell? ⟨A, 1, none⟩ = some (.int .i64 b)
  c2 : W.cell? ⟨A, 2, none⟩ = some (.int .i64 c)
  c3 : W.cell? ⟨A, 3, none⟩ = some (.int .i64 d)
theorem QuadAt.below {W W' : World} {A : Nat} {a b c d : Int} (h : QuadAt W A a b c d) (hb : Below W.heap.size W W') : QuadAt W' A a b c d :=
  ⟨Nat.lt_of_lt_of_le h.lt hb.size, cell_below hb h.c0, cell_below hb h.c1, cell_below hb h.c2, cell_below hb h.c3⟩
theorem QuadAt.new (w : World) (t : TypeId) (a b c d : Int) : QuadAt (w.alloc (.cells #[.int .i64 a, .int .i64 b, .int .i64 c, .int .i64 d] t)) w.heap.size a b c d :=
  ⟨by simp, by simp [go_sem], by simp [go_sem], by simp [go_sem], by simp [go_sem]⟩
abbrev fourV (a b c d : Int) : Value := .agg #[.int .i64 a, .int .i64 b, .int .i64 c, .int .i64 d]
/-- The row of three pairs. -/
def RowAt (W : World) (B : Nat) : Prop := B < W.heap.size ∧ ∀ k : Nat, k < 3 → ∃ an ad bn bd : Int, ((Fits an ∧ Fits ad) ∧ Fits bn ∧ Fits bd) ∧
  W.cell? ⟨B, k * 4, none⟩ = some (.int .i64 an) ∧ W.cell? ⟨B, k * 4 + 1, none⟩ = some (.int .i64 ad) ∧ W.cell? ⟨B, k * 4 + 2, none⟩ = some (.int .i64 bn) ∧ W.cell? ⟨B, k * 4 + 3, none⟩ = some (.int .i64 bd)
theorem RowAt.below {W W' : World} {B : Nat} (h : RowAt W B) (hb : Below W.heap.size W W') : RowAt W' B :=
  ⟨Nat.lt_of_lt_of_le h.1 hb.size, fun k hk => by
    obtain ⟨an, ad, bn, bd, ff, c0, c1, c2, c3⟩ := h.2 k hk
    exact ⟨an, ad, bn, bd, ff, cell_below hb c0, cell_below hb c1, cell_below hb c2, cell_below hb c3⟩⟩
theorem RowAt.new (w : World) (t : TypeId) (mn md on od a b c d : Int) (fm : Fits mn ∧ Fits md) (fo : Fits on ∧ Fits od) (fx : (Fits a ∧ Fits b) ∧ Fits c ∧ Fits d) :
    RowAt (w.alloc (.cells #[.int .i64 mn, .int .i64 md, .int .i64 on, .int .i64 od, .int .i64 a, .int .i64 b, .int .i64 c, .int .i64 d, .int .i64 mn, .int .i64 md, .int .i64 c, .int .i64 d] t)) w.heap.size :=
  ⟨by simp, fun k hk => by
    rcases (by omega : k = 0 ∨ k = 1 ∨ k = 2) with rfl | rfl | rfl
    · exact ⟨mn, md, on, od, ⟨fm, fo⟩, by simp [go_sem], by simp [go_sem], by simp [go_sem], by simp [go_sem]⟩
    · exact ⟨a, b, c, d, fx, by simp [go_sem], by simp [go_sem], by simp [go_sem], by simp [go_sem]⟩
    · exact ⟨mn, md, c, d, ⟨fm, fx.2⟩, by simp [go_sem], by simp [go_sem], by simp [go_sem], by simp [go_sem]⟩⟩
structure LoopAt (w : World) (ad : Addr) (M B : Nat) (mn md : Int) (wr : World) : Prop where
  tab : Tab ad wr
  bel : Below w.heap.size w wr
  m : BoxAt wr M mn md
  row : RowAt wr B
theorem LoopAt.below {w : World} {ad : Addr} {M B : Nat} {mn md : Int} {w1 w2 : World} (h : LoopAt w ad M B mn md w1) (hb : Below w1.heap.size w1 w2) : LoopAt w ad M B mn md w2 :=
  ⟨h.tab.below hb, below_step h.bel hb, h.m.below hb, h.row.below hb⟩
theorem BoxAt.set {W : World} {N : Nat} {n d : Int} (h : BoxAt W N n d) (p q : Int) : BoxAt ((W.setCell ⟨N, 0, none⟩ (.int .i64 p)).setCell ⟨N, 1, none⟩ (.int .i64 q)) N p q := by
  have h0 := h.2.1; have h1 := h.2.2
  refine ⟨by simpa using h.1, ?_, ?_⟩
  · rw [World.cell?_setCell_other _ _ _ _ (by intro e; injection e with _ e; cases e)]; simp [go_sem, h0]
  · have : (W.setCell ⟨N, 0, none⟩ (.int .i64 p)).cell? ⟨N, 1, none⟩ = some (.int .i64 d) := (World.cell?_setCell_other _ _ _ _ (by intro e; injection e with _ e; cases e)).trans h1
    simp [go_sem, this]
theorem BoxAt.other {W : World} {N K : Nat} {n d : Int} (h : BoxAt W N n d) (hne : K ≠ N) (u v : Value) : BoxAt ((W.setCell ⟨K, 0, none⟩ u).setCell ⟨K, 1, none⟩ v) N n d :=
  ⟨by simpa using h.1, by rw [World.cell?_setCell_far _ _ _ _ (by exact hne), World.cell?_setCell_far _ _ _ _ (by exact hne)]; exact h.2.1, by rw [World.cell?_setCell_far _ _ _ _ (by exact hne), World.cell?_setCell_far _ _ _ _ (by exact hne)]; exact h.2.2⟩
/-- A box that may be written. -/
def FreeAt (W : World) (N : Nat) (n d : Int) : Prop := BoxAt W N n d ∧ ∀ o, W.frozen? ⟨N, o, none⟩ = false
theorem FreeAt.below {W W' : World} {A : Nat} {n d : Int} (h : FreeAt W A n d) (hb : Below W.heap.size W W') : FreeAt W' A n d :=
  ⟨h.1.below hb, fun o => (hb.frozen (p := ⟨A, o, none⟩) h.1.1).trans (h.2 o)⟩
theorem FreeAt.new (w : World) (n d : Int) : FreeAt (w.alloc (.cells #[.int .i64 n, .int .i64 d] 25)) w.heap.size n d := ⟨BoxAt.new w n d, fun o => by simp [go_sem]⟩
theorem FreeAt.set {W : World} {N : Nat} {n d : Int} (h : FreeAt W N n d) (p q : Int) : FreeAt ((W.setCell ⟨N, 0, none⟩ (.int .i64 p)).setCell ⟨N, 1, none⟩ (.int .i64 q)) N p q := ⟨h.1.set p q, fun o => by simp [go_sem, h.2 o]⟩
theorem FreeAt.other {W : World} {N K : Nat} {n d : Int} (h : FreeAt W N n d) (hne : K ≠ N) (u v : Value) : FreeAt ((W.setCell ⟨K, 0, none⟩ u).setCell ⟨K, 1, none⟩ v) N n d := ⟨h.1.other hne u v, fun o => by simp [go_sem, h.2 o]⟩
/-- What stays in a round: the two arguments, and the four results. -/
structure RnAt (wr : World) (an aq bn bd : Int) (N1 N2 N3 N4 : Nat) (p1 q1 p2 q2 p3 q3 p4 q4 : Int) (cur : World) : Prop where
  bel : Below wr.heap.size wr cur
  a : BoxAt cur (wr.heap.size + 1) an aq
  e : BoxAt cur (wr.heap.size + 1 + 1) bn bd
  n1 : FreeAt cur N1 p1 q1
  n2 : FreeAt cur N2 p2 q2
  n3 : FreeAt cur N3 p3 q3
  n4 : FreeAt cur N4 p4 q4
  o : wr.heap.size + 1 + 1 < N1 ∧ N1 < N2 ∧ N2 < N3 ∧ N3 < N4
theorem RnAt.step {wr : World} {an aq bn bd : Int} {N1 N2 N3 N4 : Nat} {p1 q1 p2 q2 p3 q3 p4 q4 : Int} {c1 c2 : World} (h : RnAt wr an aq bn bd N1 N2 N3 N4 p1 q1 p2 q2 p3 q3 p4 q4 c1) (hb : Below c1.heap.size c1 c2) : RnAt wr an aq bn bd N1 N2 N3 N4 p1 q1 p2 q2 p3 q3 p4 q4 c2 :=
  ⟨below_step h.bel hb, h.a.below hb, h.e.below hb, h.n1.below hb, h.n2.below hb, h.n3.below hb, h.n4.below hb, h.o⟩
theorem RnAt.set1 {wr : World} {an aq bn bd : Int} {N1 N2 N3 N4 : Nat} {p1 q1 p2 q2 p3 q3 p4 q4 : Int} {c : World} (h : RnAt wr an aq bn bd N1 N2 N3 N4 p1 q1 p2 q2 p3 q3 p4 q4 c) (p q : Int) : RnAt wr an aq bn bd N1 N2 N3 N4 p q p2 q2 p3 q3 p4 q4 ((c.setCell ⟨N1, 0, none⟩ (.int .i64 p)).setCell ⟨N1, 1, none⟩ (.int .i64 q)) :=
  ⟨(h.bel.setCell (by have := h.o; show _ ≤ N1; omega) _).setCell (by have := h.o; show _ ≤ N1; omega) _, h.a.other (by have := h.o; omega) _ _, h.e.other (by have := h.o; omega) _ _, h.n1.set p q, h.n2.other (by have := h.o; omega) _ _, h.n3.other (by have := h.o; omega) _ _, h.n4.other (by have := h.o; omega) _ _, h.o⟩
theorem RnAt.set2 {wr : World} {an aq bn bd : Int} {N1 N2 N3 N4 : Nat} {p1 q1 p2 q2 p3 q3 p4 q4 : Int} {c : World} (h : RnAt wr an aq bn bd N1 N2 N3 N4 p1 q1 p2 q2 p3 q3 p4 q4 c) (p q : Int) : RnAt wr an aq bn bd N1 N2 N3 N4 p1 q1 p q p3 q3 p4 q4 ((c.setCell ⟨N2, 0, none⟩ (.int .i64 p)).setCell ⟨N2, 1, none⟩ (.int .i64 q)) :=
  ⟨(h.bel.setCell (by have := h.o; show _ ≤ N2; omega) _).setCell (by have := h.o; show _ ≤ N2; omega) _, h.a.other (by have := h.o; omega) _ _, h.e.other (by have := h.o; omega) _ _, h.n1.other (by have := h.o; omega) _ _, h.n2.set p q, h.n3.other (by have := h.o; omega) _ _, h.n4.other (by have := h.o; omega) _ _, h.o⟩
theorem RnAt.set3 {wr : World} {an aq bn bd : Int} {N1 N2 N3 N4 : Nat} {p1 q1 p2 q2 p3 q3 p4 q4 : Int} {c : World} (h : RnAt wr an aq bn bd N1 N2 N3 N4 p1 q1 p2 q2 p3 q3 p4 q4 c) (p q : Int) : RnAt wr an aq bn bd N1 N2 N3 N4 p1 q1 p2 q2 p q p4 q4 ((c.setCell ⟨N3, 0, none⟩ (.int .i64 p)).setCell ⟨N3, 1, none⟩ (.int .i64 q)) :=
  ⟨(h.bel.setCell (by have := h.o; show _ ≤ N3; omega) _).setCell (by have := h.o; show _ ≤ N3; omega) _, h.a.other (by have := h.o; omega) _ _, h.e.other (by have := h.o; omega) _ _, h.n1.other (by have := h.o; omega) _ _, h.n2.other (by have := h.o; omega) _ _, h.n3.set p q, h.n4.other (by have := h.o; omega) _ _, h.o⟩
theorem RnAt.set4 {wr : World} {an aq bn bd : Int} {N1 N2 N3 N4 : Nat} {p1 q1 p2 q2 p3 q3 p4 q4 : Int} {c : World} (h : RnAt wr an aq bn bd N1 N2 N3 N4 p1 q1 p2 q2 p3 q3 p4 q4 c) (p q : Int) : RnAt wr an aq bn bd N1 N2 N3 N4 p1 q1 p2 q2 p3 q3 p q ((c.setCell ⟨N4, 0, none⟩ (.int .i64 p)).setCell ⟨N4, 1, none⟩ (.int .i64 q)) :=
  ⟨(h.bel.setCell (by have := h.o; show _ ≤ N4; omega) _).setCell (by have := h.o; show _ ≤ N4; omega) _, h.a.other (by have := h.o; omega) _ _, h.e.other (by have := h.o; omega) _ _, h.n1.other (by have := h.o; omega) _ _, h.n2.other (by have := h.o; omega) _ _, h.n3.other (by have := h.o; omega) _ _, h.n4.set p q, h.o⟩

set_option maxRecDepth 100000 in
set_option maxHeartbeats 8000000 in
theorem matches_any (a b c d n : Int) (w : World) (ht : ∃ ad, Tab ad w) (f0 : Fits a) (f1 : Fits b) (f2 : Fits c) (f3 : Fits d) (_ : -9223372036854775808 ≤ n) (_ : n ≤ 9223372036854775807) :
    Calls Tryz.prog 3 #[fourV a b c d, .int .i64 n] w fun e' w' => e' = .returned (.bool true) ∧ Below w.heap.size w w' := by
  obtain ⟨ad, ht⟩ := ht
  have hs := fun w ht => sane_any w ad ht
  have hi1 := fun w => is_any a b w
  have hi2 := fun w => is_any c d w
  obtain ⟨mn, md, me, fm, hm1, hm2⟩ := Make_both a b ad f0 f1
  obtain ⟨on, od, oe, fo, ho1, ho2⟩ := Make_both c d ad f2 f3
  have HS := Lib.hid hs; have T0 := Lib.hid ht; have I1 := Lib.hid hi1; have I2 := Lib.hid hi2
  have M1 := Lib.hid hm1; have M2 := Lib.hid hm2; have O1 := Lib.hid ho1; have O2 := Lib.hid ho2
  have FM := Lib.hid fm; have FO := Lib.hid fo; have FX := Lib.hid (And.intro (And.intro f0 f1) (And.intro f2 f3))
  clear hs ht hi1 hi2 hm1 hm2 ho1 ho2 fm fo f0 f1 f2 f3
  have X := Lib.hid (QuadAt.new w 22 a b c d)
  go_enter Tryz.func3, Tryz.ntmps3
  have Lc := Lib.hid (below_new w (.cells #[.int .i64 a, .int .i64 b, .int .i64 c, .int .i64 d] 22))
  go_wp2_with fail
  refine (HS.out _ (T0.out.below Lc.out)).mono ?_; rintro e w1 ⟨rfl, g1⟩
  have Lc := Lib.hid (below_step Lc.out g1)
  have X := Lib.hid (X.out.below g1)
  have X0 := X.out.c0; have X1 := X.out.c1; have X2 := X.out.c2; have X3 := X.out.c3
  go_wp2_with fail
  clear X0 X1 X2 X3
  refine (M1.out _ (T0.out.below Lc.out)).mono ?_; rintro e w2 ⟨rfl, g2⟩
  have Lc := Lib.hid (below_step Lc.out g2)
  have X := Lib.hid (X.out.below g2)
  have X := Lib.hid (X.out.below (below_new w2 (.cells #[.int .i64 mn, .int .i64 md] 25)))
  have M := Lib.hid (BoxAt.new w2 mn md)
  have Lc := Lib.hid (below_step Lc.out (below_new w2 (.cells #[.int .i64 mn, .int .i64 md] 25)))
  have X0 := X.out.c0; have X1 := X.out.c1; have X2 := X.out.c2; have X3 := X.out.c3
  go_wp2_with fail
  clear X0 X1 X2 X3
  refine (M2.out _).mono ?_; rintro e w3 ⟨rfl, g3⟩
  have Lc := Lib.hid (below_step Lc.out g3)
  have X := Lib.hid (X.out.below g3)
  have M := Lib.hid (M.out.below g3)
  have X := Lib.hid (X.out.below (below_new w3 (.cells #[.int .i64 mn, .int .i64 md] 25)))
  have M := Lib.hid (M.out.below (below_new w3 (.cells #[.int .i64 mn, .int .i64 md] 25)))
  have N := Lib.hid (BoxAt.new w3 mn md)
  have Lc := Lib.hid (below_step Lc.out (below_new w3 (.cells #[.int .i64 mn, .int .i64 md] 25)))
  have X0 := X.out.c0; have X1 := X.out.c1; have X2 := X.out.c2; have X3 := X.out.c3
  go_wp2_with fail
  clear X0 X1 X2 X3
  refine (O1.out _ (T0.out.below Lc.out)).mono ?_; rintro e w4 ⟨rfl, g4⟩
  have Lc := Lib.hid (below_step Lc.out g4)
  have X := Lib.hid (X.out.below g4)
  have M := Lib.hid (M.out.below g4)
  have N := Lib.hid (N.out.below g4)
  have X := Lib.hid (X.out.below (below_new w4 (.cells #[.int .i64 on, .int .i64 od] 25)))
  have M := Lib.hid (M.out.below (below_new w4 (.cells #[.int .i64 on, .int .i64 od] 25)))
  have N := Lib.hid (N.out.below (below_new w4 (.cells #[.int .i64 on, .int .i64 od] 25)))
  have O := Lib.hid (BoxAt.new w4 on od)
  have Lc := Lib.hid (below_step Lc.out (below_new w4 (.cells #[.int .i64 on, .int .i64 od] 25)))
  have X0 := X.out.c0; have X1 := X.out.c1; have X2 := X.out.c2; have X3 := X.out.c3
  go_wp2_with fail
  clear X0 X1 X2 X3
  refine (O2.out _).mono ?_; rintro e w5 ⟨rfl, g5⟩
  have Lc := Lib.hid (below_step Lc.out g5)
  have X := Lib.hid (X.out.below g5)
  have M := Lib.hid (M.out.below g5)
  have N := Lib.hid (N.out.below g5)
  have O := Lib.hid (O.out.below g5)
  have X := Lib.hid (X.out.below (below_new w5 (.cells #[.int .i64 on, .int .i64 od] 25)))
  have M := Lib.hid (M.out.below (below_new w5 (.cells #[.int .i64 on, .int .i64 od] 25)))
  have N := Lib.hid (N.out.below (below_new w5 (.cells #[.int .i64 on, .int .i64 od] 25)))
  have O := Lib.hid (O.out.below (below_new w5 (.cells #[.int .i64 on, .int .i64 od] 25)))
  have P := Lib.hid (BoxAt.new w5 on od)
  have Lc := Lib.hid (below_step Lc.out (below_new w5 (.cells #[.int .i64 on, .int .i64 od] 25)))
  have M0 := M.out.2.1; have M1 := M.out.2.2
  have N0 := N.out.2.1; have N1 := N.out.2.2
  have O0 := O.out.2.1; have O1 := O.out.2.2
  have P0 := P.out.2.1; have P1 := P.out.2.2
  go_wp2_with fail
  clear M0 M1 N0 N1 O0 O1 P0 P1
  generalize hW : w5.alloc (.cells #[.int .i64 on, .int .i64 od] 25) = W at *
  clear hW
  have HST : Hid (∀ v1 v2, (v1.cell? ⟨w.heap.size, 0, none⟩ = some (.int .i64 a) ∧ v1.cell? ⟨w.heap.size, 1, none⟩ = some (.int .i64 b) ∧ v1.cell? ⟨w.heap.size, 2, none⟩ = some (.int .i64 c) ∧ v1.cell? ⟨w.heap.size, 3, none⟩ = some (.int .i64 d) ∧ v1.cell? ⟨w2.heap.size, 0, none⟩ = some (.int .i64 mn) ∧ v1.cell? ⟨w2.heap.size, 1, none⟩ = some (.int .i64 md) ∧ v1.cell? ⟨w4.heap.size, 0, none⟩ = some (.int .i64 on) ∧ v1.cell? ⟨w4.heap.size, 1, none⟩ = some (.int .i64 od) ∧ Below W.heap.size W v1) → Below v1.heap.size v1 v2 → (v2.cell? ⟨w.heap.size, 0, none⟩ = some (.int .i64 a) ∧ v2.cell? ⟨w.heap.size, 1, none⟩ = some (.int .i64 b) ∧ v2.cell? ⟨w.heap.size, 2, none⟩ = some (.int .i64 c) ∧ v2.cell? ⟨w.heap.size, 3, none⟩ = some (.int .i64 d) ∧ v2.cell? ⟨w2.heap.size, 0, none⟩ = some (.int .i64 mn) ∧ v2.cell? ⟨w2.heap.size, 1, none⟩ = some (.int .i64 md) ∧ v2.cell? ⟨w4.heap.size, 0, none⟩ = some (.int .i64 on) ∧ v2.cell? ⟨w4.heap.size, 1, none⟩ = some (.int .i64 od) ∧ Below W.heap.size W v2)) := Lib.hid fun v1 v2 ⟨h0, h1, h2, h3, h4, h5, h6, h7, h8⟩ hb => ⟨cell_below hb h0, cell_below hb h1, cell_below hb h2, cell_below hb h3, cell_below hb h4, cell_below hb h5, cell_below hb h6, cell_below hb h7, below_step h8 hb⟩
  have HS0 : Hid (W.cell? ⟨w.heap.size, 0, none⟩ = some (.int .i64 a) ∧ W.cell? ⟨w.heap.size, 1, none⟩ = some (.int .i64 b) ∧ W.cell? ⟨w.heap.size, 2, none⟩ = some (.int .i64 c) ∧ W.cell? ⟨w.heap.size, 3, none⟩ = some (.int .i64 d) ∧ W.cell? ⟨w2.heap.size, 0, none⟩ = some (.int .i64 mn) ∧ W.cell? ⟨w2.heap.size, 1, none⟩ = some (.int .i64 md) ∧ W.cell? ⟨w4.heap.size, 0, none⟩ = some (.int .i64 on) ∧ W.cell? ⟨w4.heap.size, 1, none⟩ = some (.int .i64 od) ∧ Below W.heap.size W W) := Lib.hid ⟨X.out.c0, X.out.c1, X.out.c2, X.out.c3, M.out.2.1, M.out.2.2, O.out.2.1, O.out.2.2, Below.refl _ _⟩
  go_region_held3 (fun v => v.cell? ⟨w.heap.size, 0, none⟩ = some (.int .i64 a) ∧ v.cell? ⟨w.heap.size, 1, none⟩ = some (.int .i64 b) ∧ v.cell? ⟨w.heap.size, 2, none⟩ = some (.int .i64 c) ∧ v.cell? ⟨w.heap.size, 3, none⟩ = some (.int .i64 d) ∧ v.cell? ⟨w2.heap.size, 0, none⟩ = some (.int .i64 mn) ∧ v.cell? ⟨w2.heap.size, 1, none⟩ = some (.int .i64 md) ∧ v.cell? ⟨w4.heap.size, 0, none⟩ = some (.int .i64 on) ∧ v.cell? ⟨w4.heap.size, 1, none⟩ = some (.int .i64 od) ∧ Below W.heap.size W v) (first | exact HST.out _ _ HS0.out (Below.refl _ _).drew | exact HST.out _ _ (by assumption) hb4 | exact HST.out _ _ (by assumption) (below_new _ _)) (first | (go_at_call 7; ((with_reducible refine (I1.out _).mono ?_); rintro e v4 ⟨rfl, hb4⟩)) | (go_at_call 7; ((with_reducible refine (I2.out _).mono ?_); rintro e v4 ⟨rfl, hb4⟩)))
  rename_i hh
  have L0 := Lib.hid (show LoopAt w ad w2.heap.size v4.heap.size mn md _ from ⟨(T0.out.below Lc.out).below hh.2.2.2.2.2.2.2.2, below_step Lc.out hh.2.2.2.2.2.2.2.2, M.out.below hh.2.2.2.2.2.2.2.2, RowAt.new v4 29 mn md on od a b c d FM.out FO.out FX.out⟩)
  clear hh HST HS0 X M N O P Lc I1 I2 M1 M2 O1 O2 HS T0 FO FX
  generalize v4.alloc (.cells #[.int .i64 mn, .int .i64 md, .int .i64 on, .int .i64 od, .int .i64 a, .int .i64 b, .int .i64 c, .int .i64 d, .int .i64 mn, .int .i64 md, .int .i64 c, .int .i64 d] 29) = V at *
  generalize v4.heap.size = B at *
  generalize w2.heap.size = MM at *
  go_wp2_with fail
  go_loopw [100] (fun i wr => ∃ k : Nat, k ≤ 3 ∧ i = .int .i64 k ∧ Hid (LoopAt w ad MM B mn md wr)) (fun i _ => 3 - (intOf i).toNat)
  case atStart => exact ⟨0, by omega, rfl, L0⟩
  case round =>
    obtain ⟨k, hk, rfl, L1⟩ := hrel
    clear L0
    by_cases hk3 : k < 3
    · have hlt : (k : Int) < 3 := by omega
      obtain ⟨an, aq, bn, bd, ff, c0, c1, c2, c3⟩ := L1.out.row.2 k hk3
      have FF := Lib.hid ff; clear ff
      go_wp2_with fail
      clear c0 c1 c2 c3
      have W3 := Lib.hid (show Below wr.heap.size wr _ from below_step (below_step (below_new wr (.cells #[.int .i64 an, .int .i64 aq, .int .i64 bn, .int .i64 bd] 29)) (below_new _ (.cells #[.int .i64 an, .int .i64 aq] 25))) (below_new _ (.cells #[.int .i64 bn, .int .i64 bd] 25)))
      have A := Lib.hid ((BoxAt.new (wr.alloc (.cells #[.int .i64 an, .int .i64 aq, .int .i64 bn, .int .i64 bd] 29)) an aq).below (below_new _ (.cells #[.int .i64 bn, .int .i64 bd] 25)))
      have E := Lib.hid (BoxAt.new ((wr.alloc (.cells #[.int .i64 an, .int .i64 aq, .int .i64 bn, .int .i64 bd] 29)).alloc (.cells #[.int .i64 an, .int .i64 aq] 25)) bn bd)
      rw [World.size_alloc] at A
      rw [World.size_alloc, World.size_alloc] at E
      generalize ((wr.alloc (.cells #[.int .i64 an, .int .i64 aq, .int .i64 bn, .int .i64 bd] 29)).alloc (.cells #[.int .i64 an, .int .i64 aq] 25)).alloc (.cells #[.int .i64 bn, .int .i64 bd] 25) = V1 at *
      obtain ⟨p1, q1, x1, ha1, hb1⟩ := Add_both an aq bn bd ad FF.out.1 FF.out.2
      have A1 := Lib.hid ha1; have B1 := Lib.hid hb1; clear ha1 hb1
      obtain ⟨p2, q2, x2, ha2, hb2⟩ := Sub_both an aq bn bd ad FF.out.1 FF.out.2
      have A2 := Lib.hid ha2; have B2 := Lib.hid hb2; clear ha2 hb2
      obtain ⟨p3, q3, x3, ha3, hb3⟩ := Mul_both an aq bn bd ad FF.out.1 FF.out.2
      have A3 := Lib.hid ha3; have B3 := Lib.hid hb3; clear ha3 hb3
      obtain ⟨p4, q4, x4, ha4, hb4⟩ := Div_both an aq bn bd ad FF.out.1 FF.out.2
      have A4 := Lib.hid ha4; have B4 := Lib.hid hb4; clear ha4 hb4
      obtain ⟨p5, q5, x5, ha5, hb5⟩ := Round_both an aq n ad FF.out.1
      have A5 := Lib.hid ha5; have B5 := Lib.hid hb5; clear ha5 hb5
      have A0 := A.out.2.1; have A1' := A.out.2.2; have E0 := E.out.2.1; have E1' := E.out.2.2
      clear A0 A1' E0 E1'
      refine (A1.out _ (L1.out.below W3.out).tab).mono ?_; rintro e v1 ⟨rfl, g1⟩
      have o0 := Lib.hid ((E.out.below g1).1)
      have W3 := Lib.hid (below_step (below_step W3.out g1) (below_new v1 (.cells #[.int .i64 p1, .int .i64 q1] 25)))
      have A := Lib.hid ((A.out.below g1).below (below_new v1 (.cells #[.int .i64 p1, .int .i64 q1] 25)))
      have E := Lib.hid ((E.out.below g1).below (below_new v1 (.cells #[.int .i64 p1, .int .i64 q1] 25)))
      have N1 := Lib.hid (FreeAt.new v1 p1 q1)
      have A0 := A.out.2.1; have A1' := A.out.2.2; have E0 := E.out.2.1; have E1' := E.out.2.2
      go_wp2_with fail
      clear A0 A1' E0 E1'
      refine (B1.out _).mono ?_; rintro e v2 ⟨rfl, g2⟩
      have o1 := Lib.hid ((N1.out.below g2).1.1)
      have W3 := Lib.hid (below_step (below_step W3.out g2) (below_new v2 (.cells #[.int .i64 p1, .int .i64 q1] 25)))
      have A := Lib.hid ((A.out.below g2).below (below_new v2 (.cells #[.int .i64 p1, .int .i64 q1] 25)))
      have E := Lib.hid ((E.out.below g2).below (below_new v2 (.cells #[.int .i64 p1, .int .i64 q1] 25)))
      have N1 := Lib.hid ((N1.out.below g2).below (below_new v2 (.cells #[.int .i64 p1, .int .i64 q1] 25)))
      have N2 := Lib.hid (FreeAt.new v2 p1 q1)
      have A0 := A.out.2.1; have A1' := A.out.2.2; have E0 := E.out.2.1; have E1' := E.out.2.2
      go_wp2_with fail
      clear A0 A1' E0 E1'
      refine (A2.out _ (L1.out.below W3.out).tab).mono ?_; rintro e v3 ⟨rfl, g3⟩
      have o2 := Lib.hid ((N2.out.below g3).1.1)
      have W3 := Lib.hid (below_step (below_step W3.out g3) (below_new v3 (.cells #[.int .i64 p2, .int .i64 q2] 25)))
      have A := Lib.hid ((A.out.below g3).below (below_new v3 (.cells #[.int .i64 p2, .int .i64 q2] 25)))
      have E := Lib.hid ((E.out.below g3).below (below_new v3 (.cells #[.int .i64 p2, .int .i64 q2] 25)))
      have N1 := Lib.hid ((N1.out.below g3).below (below_new v3 (.cells #[.int .i64 p2, .int .i64 q2] 25)))
      have N2 := Lib.hid ((N2.out.below g3).below (below_new v3 (.cells #[.int .i64 p2, .int .i64 q2] 25)))
      have N3 := Lib.hid (FreeAt.new v3 p2 q2)
      have A0 := A.out.2.1; have A1' := A.out.2.2; have E0 := E.out.2.1; have E1' := E.out.2.2
      go_wp2_with fail
      clear A0 A1' E0 E1'
      refine (B2.out _).mono ?_; rintro e v4 ⟨rfl, g4⟩
      have o3 := Lib.hid ((N3.out.below g4).1.1)
      have W3 := Lib.hid (below_step (below_step W3.out g4) (below_new v4 (.cells #[.int .i64 p2, .int .i64 q2] 25)))
      have A := Lib.hid ((A.out.below g4).below (below_new v4 (.cells #[.int .i64 p2, .int .i64 q2] 25)))
      have E := Lib.hid ((E.out.below g4).below (below_new v4 (.cells #[.int .i64 p2, .int .i64 q2] 25)))
      have N1 := Lib.hid ((N1.out.below g4).below (below_new v4 (.cells #[.int .i64 p2, .int .i64 q2] 25)))
      have N2 := Lib.hid ((N2.out.below g4).below (below_new v4 (.cells #[.int .i64 p2, .int .i64 q2] 25)))
      have N3 := Lib.hid ((N3.out.below g4).below (below_new v4 (.cells #[.int .i64 p2, .int .i64 q2] 25)))
      have N4 := Lib.hid (FreeAt.new v4 p2 q2)
      have R := Lib.hid (show RnAt wr an aq bn bd v1.heap.size v2.heap.size v3.heap.size v4.heap.size p1 q1 p1 q1 p2 q2 p2 q2 _ from ⟨W3.out, A.out, E.out, N1.out, N2.out, N3.out, N4.out, o0.out, o1.out, o2.out, o3.out⟩)
      clear W3 A E N1 N2 N3 N4 o0 o1 o2 o3
      have n10 := R.out.n1.1.2.1; have n11 := R.out.n1.1.2.2
      have n20 := R.out.n2.1.2.1; have n21 := R.out.n2.1.2.2
      have n30 := R.out.n3.1.2.1; have n31 := R.out.n3.1.2.2
      have n40 := R.out.n4.1.2.1; have n41 := R.out.n4.1.2.2
      have A0 := R.out.a.2.1; have A1' := R.out.a.2.2; have E0 := R.out.e.2.1; have E1' := R.out.e.2.2
      go_wp2_with fail
      clear n10 n11 n20 n21 n30 n31 n40 n41 A0 A1' E0 E1'
      generalize v4.alloc (.cells #[.int .i64 p2, .int .i64 q2] 25) = V4 at *
      generalize v1.heap.size = J1 at *; generalize v2.heap.size = J2 at *; generalize v3.heap.size = J3 at *; generalize v4.heap.size = J4 at *
      refine (A3.out _ (L1.out.below R.out.bel).tab).mono ?_; rintro e v5 ⟨rfl, g5⟩
      have R := Lib.hid (R.out.step g5)
      have n10 := R.out.n1.1.2.1; have n11 := R.out.n1.1.2.2
      have y10 := R.out.n1.2 0; have y11 := R.out.n1.2 1
      have R' := Lib.hid (R.out.set1 p3 q3)
      have A0 := R'.out.a.2.1
      have A1' := R'.out.a.2.2
      have E0 := R'.out.e.2.1
      have E1' := R'.out.e.2.2
      go_wp2_with fail
      clear n10 n11 y10 y11 A0 A1' E0 E1'
      have R := R'; clear R'
      refine (B3.out _).mono ?_; rintro e v6 ⟨rfl, g6⟩
      have R := Lib.hid (R.out.step g6)
      have n20 := R.out.n2.1.2.1; have n21 := R.out.n2.1.2.2
      have y20 := R.out.n2.2 0; have y21 := R.out.n2.2 1
      have R' := Lib.hid (R.out.set2 p3 q3)
      have A0 := R'.out.a.2.1
      have A1' := R'.out.a.2.2
      have E0 := R'.out.e.2.1
      have E1' := R'.out.e.2.2
      go_wp2_with fail
      clear n20 n21 y20 y21 A0 A1' E0 E1'
      have R := R'; clear R'
      refine (A4.out _ (L1.out.below R.out.bel).tab).mono ?_; rintro e v7 ⟨rfl, g7⟩
      have R := Lib.hid (R.out.step g7)
      have n30 := R.out.n3.1.2.1; have n31 := R.out.n3.1.2.2
      have y30 := R.out.n3.2 0; have y31 := R.out.n3.2 1
      have R' := Lib.hid (R.out.set3 p4 q4)
      have A0 := R'.out.a.2.1
      have A1' := R'.out.a.2.2
      have E0 := R'.out.e.2.1
      have E1' := R'.out.e.2.2
      go_wp2_with fail
      clear n30 n31 y30 y31 A0 A1' E0 E1'
      have R := R'; clear R'
      refine (B4.out _).mono ?_; rintro e v8 ⟨rfl, g8⟩
      have R := Lib.hid (R.out.step g8)
      have n40 := R.out.n4.1.2.1; have n41 := R.out.n4.1.2.2
      have y40 := R.out.n4.2 0; have y41 := R.out.n4.2 1
      have R' := Lib.hid (R.out.set4 p4 q4)
      have A0 := R'.out.a.2.1
      have A1' := R'.out.a.2.2
      have E0 := R'.out.e.2.1
      have E1' := R'.out.e.2.2
      have z10 := R'.out.n1.1.2.1; have z11 := R'.out.n1.1.2.2
      have z20 := R'.out.n2.1.2.1; have z21 := R'.out.n2.1.2.2
      have z30 := R'.out.n3.1.2.1; have z31 := R'.out.n3.1.2.2
      have z40 := R'.out.n4.1.2.1; have z41 := R'.out.n4.1.2.2
      go_wp2_with fail
      clear n40 n41 y40 y41 A0 A1' E0 E1' z10 z11 z20 z21 z30 z31 z40 z41
      have R := R'; clear R'
      refine (A5.out _ (L1.out.below R.out.bel).tab).mono ?_; rintro e v9 ⟨rfl, g9⟩
      have R := Lib.hid (R.out.step g9)
      have n10 := R.out.n1.1.2.1; have n11 := R.out.n1.1.2.2
      have y10 := R.out.n1.2 0; have y11 := R.out.n1.2 1
      have R' := Lib.hid (R.out.set1 p5 q5)
      have A0 := R'.out.a.2.1
      have A1' := R'.out.a.2.2
      have E0 := R'.out.e.2.1
      have E1' := R'.out.e.2.2
      go_wp2_with fail
      clear n10 n11 y10 y11 A0 A1' E0 E1'
      have R := R'; clear R'
      refine (B5.out _).mono ?_; rintro e v10 ⟨rfl, g10⟩
      have R := Lib.hid (R.out.step g10)
      have n20 := R.out.n2.1.2.1; have n21 := R.out.n2.1.2.2
      have y20 := R.out.n2.2 0; have y21 := R.out.n2.2 1
      have R' := Lib.hid (R.out.set2 p5 q5)
      have A0 := R'.out.a.2.1
      have A1' := R'.out.a.2.2
      have E0 := R'.out.e.2.1
      have E1' := R'.out.e.2.2
      go_wp2_with fail
      clear n20 n21 y20 y21 A0 A1' E0 E1'
      have R := R'; clear R'
      clear A3 B3 A4 B4 A5 B5 A1 B1 A2 B2
      generalize (v10.setCell ⟨J2, 0, none⟩ (.int .i64 p5)).setCell ⟨J2, 1, none⟩ (.int .i64 q5) = V9 at *
      have L9 := Lib.hid (L1.out.below R.out.bel)
      obtain ⟨t, ht⟩ : ∃ t, okB an aq = t := ⟨_, rfl⟩
      have hv1 := fun w => valid_any an aq w FF.out.1.1.1 FF.out.1.1.2 FF.out.1.2.1 FF.out.1.2.2; have hv2 := fun w => refValid_any an aq w FF.out.1.1.1 FF.out.1.1.2 FF.out.1.2.1 FF.out.1.2.2
      rw [ht] at hv1 hv2
      obtain ⟨u, hu⟩ : ∃ u, cmpR an aq bn bd = u := ⟨_, rfl⟩
      have hc1 := fun w => Compare_any an aq bn bd w FF.out.1 FF.out.2; have hc2 := fun w => refCompare_any an aq bn bd w FF.out.1 FF.out.2
      rw [hu] at hc1 hc2
      obtain ⟨f, hf⟩ : ∃ f, floorR an aq = f := ⟨_, rfl⟩
      have hf1 := fun w => Floor_any an aq w FF.out.1; have hf2 := fun w => refFloor_any an aq w FF.out.1
      rw [hf] at hf1 hf2
      obtain ⟨r1, s1, hr1, hs1⟩ : ∃ r s, (clampR an aq bn bd mn md).1 = r ∧ (clampR an aq bn bd mn md).2 = s := ⟨_, _, rfl, rfl⟩
      have hk1 := fun w => Clamp_any an aq bn bd mn md w FF.out.1 FF.out.2 FM.out; have hk2 := fun w => refClamp_any an aq bn bd mn md w FF.out.1 FF.out.2 FM.out
      rw [hr1, hs1] at hk1 hk2
      obtain ⟨r2, s2, hr2, hs2⟩ : ∃ r s, (clampR mn md an aq bn bd).1 = r ∧ (clampR mn md an aq bn bd).2 = s := ⟨_, _, rfl, rfl⟩
      have hk3 := fun w => Clamp_any mn md an aq bn bd w FM.out FF.out.1 FF.out.2; have hk4 := fun w => refClamp_any mn md an aq bn bd w FM.out FF.out.1 FF.out.2
      rw [hr2, hs2] at hk3 hk4
      have HV1 := Lib.hid hv1
      have HV2 := Lib.hid hv2
      have HC1 := Lib.hid hc1
      have HC2 := Lib.hid hc2
      have HF1 := Lib.hid hf1
      have HF2 := Lib.hid hf2
      have HK1 := Lib.hid hk1
      have HK2 := Lib.hid hk2
      have HK3 := Lib.hid hk3
      have HK4 := Lib.hid hk4
      clear hv1 hv2 hc1 hc2 hf1 hf2 hk1 hk2 hk3 hk4 ht hu hf hr1 hs1 hr2 hs2
      have HST : Hid (∀ v1 v2, (v1.cell? ⟨wr.heap.size + 1, 0, none⟩ = some (.int .i64 an) ∧ v1.cell? ⟨wr.heap.size + 1, 1, none⟩ = some (.int .i64 aq) ∧ v1.cell? ⟨wr.heap.size + 1 + 1, 0, none⟩ = some (.int .i64 bn) ∧ v1.cell? ⟨wr.heap.size + 1 + 1, 1, none⟩ = some (.int .i64 bd) ∧ v1.cell? ⟨MM, 0, none⟩ = some (.int .i64 mn) ∧ v1.cell? ⟨MM, 1, none⟩ = some (.int .i64 md) ∧ v1.cell? ⟨J1, 0, none⟩ = some (.int .i64 p5) ∧ v1.cell? ⟨J1, 1, none⟩ = some (.int .i64 q5) ∧ v1.cell? ⟨J2, 0, none⟩ = some (.int .i64 p5) ∧ v1.cell? ⟨J2, 1, none⟩ = some (.int .i64 q5) ∧ Below V9.heap.size V9 v1) → Below v1.heap.size v1 v2 → (v2.cell? ⟨wr.heap.size + 1, 0, none⟩ = some (.int .i64 an) ∧ v2.cell? ⟨wr.heap.size + 1, 1, none⟩ = some (.int .i64 aq) ∧ v2.cell? ⟨wr.heap.size + 1 + 1, 0, none⟩ = some (.int .i64 bn) ∧ v2.cell? ⟨wr.heap.size + 1 + 1, 1, none⟩ = some (.int .i64 bd) ∧ v2.cell? ⟨MM, 0, none⟩ = some (.int .i64 mn) ∧ v2.cell? ⟨MM, 1, none⟩ = some (.int .i64 md) ∧ v2.cell? ⟨J1, 0, none⟩ = some (.int .i64 p5) ∧ v2.cell? ⟨J1, 1, none⟩ = some (.int .i64 q5) ∧ v2.cell? ⟨J2, 0, none⟩ = some (.int .i64 p5) ∧ v2.cell? ⟨J2, 1, none⟩ = some (.int .i64 q5) ∧ Below V9.heap.size V9 v2)) := Lib.hid fun v1 v2 ⟨h0, h1, h2, h3, h4, h5, h6, h7, h8, h9, h10⟩ hb => ⟨cell_below hb h0, cell_below hb h1, cell_below hb h2, cell_below hb h3, cell_below hb h4, cell_below hb h5, cell_below hb h6, cell_below hb h7, cell_below hb h8, cell_below hb h9, below_step h10 hb⟩
      have HS0 : Hid (V9.cell? ⟨wr.heap.size + 1, 0, none⟩ = some (.int .i64 an) ∧ V9.cell? ⟨wr.heap.size + 1, 1, none⟩ = some (.int .i64 aq) ∧ V9.cell? ⟨wr.heap.size + 1 + 1, 0, none⟩ = some (.int .i64 bn) ∧ V9.cell? ⟨wr.heap.size + 1 + 1, 1, none⟩ = some (.int .i64 bd) ∧ V9.cell? ⟨MM, 0, none⟩ = some (.int .i64 mn) ∧ V9.cell? ⟨MM, 1, none⟩ = some (.int .i64 md) ∧ V9.cell? ⟨J1, 0, none⟩ = some (.int .i64 p5) ∧ V9.cell? ⟨J1, 1, none⟩ = some (.int .i64 q5) ∧ V9.cell? ⟨J2, 0, none⟩ = some (.int .i64 p5) ∧ V9.cell? ⟨J2, 1, none⟩ = some (.int .i64 q5) ∧ Below V9.heap.size V9 V9) := Lib.hid ⟨R.out.a.2.1, R.out.a.2.2, R.out.e.2.1, R.out.e.2.2, L9.out.m.2.1, L9.out.m.2.2, R.out.n1.1.2.1, R.out.n1.1.2.2, R.out.n2.1.2.1, R.out.n2.1.2.2, Below.refl _ _⟩
      go_region_held3 (fun v => v.cell? ⟨wr.heap.size + 1, 0, none⟩ = some (.int .i64 an) ∧ v.cell? ⟨wr.heap.size + 1, 1, none⟩ = some (.int .i64 aq) ∧ v.cell? ⟨wr.heap.size + 1 + 1, 0, none⟩ = some (.int .i64 bn) ∧ v.cell? ⟨wr.heap.size + 1 + 1, 1, none⟩ = some (.int .i64 bd) ∧ v.cell? ⟨MM, 0, none⟩ = some (.int .i64 mn) ∧ v.cell? ⟨MM, 1, none⟩ = some (.int .i64 md) ∧ v.cell? ⟨J1, 0, none⟩ = some (.int .i64 p5) ∧ v.cell? ⟨J1, 1, none⟩ = some (.int .i64 q5) ∧ v.cell? ⟨J2, 0, none⟩ = some (.int .i64 p5) ∧ v.cell? ⟨J2, 1, none⟩ = some (.int .i64 q5) ∧ Below V9.heap.size V9 v) (first | exact HST.out _ _ HS0.out (Below.refl _ _).drew | exact HST.out _ _ (by assumption) hb4) (first | (go_at_call 18; ((with_reducible refine (HV1.out _).mono ?_); rintro e v4 ⟨rfl, hb4⟩)) | (go_at_call 19; ((with_reducible refine (HV2.out _).mono ?_); rintro e v4 ⟨rfl, hb4⟩)) | (go_at_call 20; ((with_reducible refine (HC1.out _).mono ?_); rintro e v4 ⟨rfl, hb4⟩)) | (go_at_call 21; ((with_reducible refine (HC2.out _).mono ?_); rintro e v4 ⟨rfl, hb4⟩)) | (go_at_call 22; ((with_reducible refine (HF1.out _).mono ?_); rintro e v4 ⟨rfl, hb4⟩)) | (go_at_call 23; ((with_reducible refine (HF2.out _).mono ?_); rintro e v4 ⟨rfl, hb4⟩)) | (go_at_call 24; ((with_reducible refine (HK1.out _).mono ?_); rintro e v4 ⟨rfl, hb4⟩)) | (go_at_call 24; ((with_reducible refine (HK3.out _).mono ?_); rintro e v4 ⟨rfl, hb4⟩)) | (go_at_call 25; ((with_reducible refine (HK2.out _).mono ?_); rintro e v4 ⟨rfl, hb4⟩)) | (go_at_call 25; ((with_reducible refine (HK4.out _).mono ?_); rintro e v4 ⟨rfl, hb4⟩)))
      rename_i hh
      have LE := Lib.hid (L9.out.below hh.2.2.2.2.2.2.2.2.2.2)
      clear hh HST HS0 R L9 L1
      go_wp2_with fail
      go_roundw
      case rel => exact ⟨k + 1, by omega, by go_num, LE⟩
      case measure => simp [intOf]; omega
    · have hlt : ¬ (k : Int) < 3 := by omega
      go_wp2_with fail
      go_ret
      exact ⟨rfl, L1.out.bel⟩
end Go.Proofs.YtkkhmgcjaehnkaaGreatDoor
