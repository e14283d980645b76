/-
  The contract of the statements' made: three fractions, or false at the first pair that gives none.
-/
import Derived.Test.YtkkhmgcjaehnkaaDoorKit
import Derived.Deep.RegionHeld3
namespace Go.Proofs.YtkkhmgcjaehnkaaDoor
open Go.RowKit Go.Shelf

/-- Six numbers in a block of their own, which may be written. -/
structure SixAt (w : World) (A : Nat) (a b c d e f : Int) : Prop where
  lt : A < w.heap.size
  c0 : w.cell? ⟨A, 0, none⟩ = some (.int .i64 a)
  c1 : w.cell? ⟨A, 1, none⟩ = some (.int .i64 b)
  c2 : w.cell? ⟨A, 2, none⟩ = some (.int .i64 c)
  c3 : w.cell? ⟨A, 3, none⟩ = some (.int .i64 d)
  c4 : w.cell? ⟨A, 4, none⟩ = some (.int .i64 e)
  c5 : w.cell? ⟨A, 5, none⟩ = some (.int .i64 f)
  fr : ∀ o, w.frozen? ⟨A, o, none⟩ = false
theorem SixAt.below {w w' : World} {A : Nat} {a b c d e f : Int} (h : SixAt w A a b c d e f) (hb : Below w.heap.size w w') : SixAt w' A a b c d e f :=
  ⟨Nat.lt_of_lt_of_le h.lt hb.size, cell_below hb h.c0, cell_below hb h.c1, cell_below hb h.c2, cell_below hb h.c3, cell_below hb h.c4, cell_below hb h.c5, fun o => (hb.frozen (p := ⟨A, o, none⟩) h.lt).trans (h.fr o)⟩
theorem SixAt.new (w : World) (t : TypeId) (a b c d e f : Int) : SixAt (w.alloc (.cells #[.int .i64 a, .int .i64 b, .int .i64 c, .int .i64 d, .int .i64 e, .int .i64 f] t)) w.heap.size a b c d e f :=
  ⟨by simp, by simp [go_sem], by simp [go_sem], by simp [go_sem], by simp [go_sem], by simp [go_sem], by simp [go_sem], fun o => by simp [go_sem]⟩
theorem SixAt.other {w : World} {A : Nat} {a b c d e f : Int} (h : SixAt w A a b c d e f) {B o : Nat} (hB : B ≠ A) (v : Value) : SixAt (w.setCell ⟨B, o, none⟩ v) A a b c d e f := by
  have ne : ∀ p, (⟨B, o, none⟩ : Addr) ≠ ⟨A, p, none⟩ := fun p e => hB (by injection e)
  refine ⟨by simpa using h.lt, ?_, ?_, ?_, ?_, ?_, ?_, fun o' => by simp [go_sem, h.fr o']⟩
  · rw [World.cell?_setCell_other _ _ _ _ (ne 0)]; exact h.c0
  · rw [World.cell?_setCell_other _ _ _ _ (ne 1)]; exact h.c1
  · rw [World.cell?_setCell_other _ _ _ _ (ne 2)]; exact h.c2
  · rw [World.cell?_setCell_other _ _ _ _ (ne 3)]; exact h.c3
  · rw [World.cell?_setCell_other _ _ _ _ (ne 4)]; exact h.c4
  · rw [World.cell?_setCell_other _ _ _ _ (ne 5)]; exact h.c5
theorem SixAt.put0 {w : World} {A : Nat} {a b c d e f : Int} (h : SixAt w A a b c d e f) (p q : Int) : SixAt ((w.setCell ⟨A, 0, none⟩ (.int .i64 p)).setCell ⟨A, 1, none⟩ (.int .i64 q)) A p q c d e f :=
  ⟨by simpa using h.lt, by simp [go_sem, h.c0], by simp [go_sem, h.c1], by simp [go_sem, h.c2], by simp [go_sem, h.c3], by simp [go_sem, h.c4], by simp [go_sem, h.c5], fun o => by simp [go_sem, h.fr o]⟩
theorem SixAt.put1 {w : World} {A : Nat} {a b c d e f : Int} (h : SixAt w A a b c d e f) (p q : Int) : SixAt ((w.setCell ⟨A, 2, none⟩ (.int .i64 p)).setCell ⟨A, 3, none⟩ (.int .i64 q)) A a b p q e f :=
  ⟨by simpa using h.lt, by simp [go_sem, h.c0], by simp [go_sem, h.c1], by simp [go_sem, h.c2], by simp [go_sem, h.c3], by simp [go_sem, h.c4], by simp [go_sem, h.c5], fun o => by simp [go_sem, h.fr o]⟩
theorem SixAt.put2 {w : World} {A : Nat} {a b c d e f : Int} (h : SixAt w A a b c d e f) (p q : Int) : SixAt ((w.setCell ⟨A, 4, none⟩ (.int .i64 p)).setCell ⟨A, 5, none⟩ (.int .i64 q)) A a b c d p q :=
  ⟨by simpa using h.lt, by simp [go_sem, h.c0], by simp [go_sem, h.c1], by simp [go_sem, h.c2], by simp [go_sem, h.c3], by simp [go_sem, h.c4], by simp [go_sem, h.c5], fun o => by simp [go_sem, h.fr o]⟩

/-- Three pairs of numbers, as the program holds them. -/
abbrev pairsV (a b c d e f : Int) : Value := .agg #[.int .i64 a, .int .i64 b, .int .i64 c, .int .i64 d, .int .i64 e, .int .i64 f]
/-- What stays while made runs: the pairs, the result, the list. -/
structure MadeAt (w : World) (a b c d e f p0 q0 p1 q1 p2 q2 : Int) (w' : World) : Prop where
  x : SixAt w' w.heap.size a b c d e f
  r : SixAt w' (w.heap.size + 1) 0 0 0 0 0 0
  l : SixAt w' (w.heap.size + 1 + 1) p0 q0 p1 q1 p2 q2
  bel : Below w.heap.size w w'
theorem MadeAt.step {w : World} {a b c d e f p0 q0 p1 q1 p2 q2 : Int} {w1 w2 : World} (h : MadeAt w a b c d e f p0 q0 p1 q1 p2 q2 w1) (hb : Below w1.heap.size w1 w2) : MadeAt w a b c d e f p0 q0 p1 q1 p2 q2 w2 :=
  ⟨h.x.below hb, h.r.below hb, h.l.below hb, below_step h.bel hb⟩
theorem MadeAt.new (w : World) (a b c d e f : Int) : MadeAt w a b c d e f 0 0 0 0 0 0 (((w.alloc (.cells #[.int .i64 a, .int .i64 b, .int .i64 c, .int .i64 d, .int .i64 e, .int .i64 f] 33)).alloc (.cells #[.int .i64 0, .int .i64 0, .int .i64 0, .int .i64 0, .int .i64 0, .int .i64 0] 34)).alloc (.cells #[.int .i64 0, .int .i64 0, .int .i64 0, .int .i64 0, .int .i64 0, .int .i64 0] 34)) := by
  have b1 := SixAt.new (w.alloc (.cells #[.int .i64 a, .int .i64 b, .int .i64 c, .int .i64 d, .int .i64 e, .int .i64 f] 33)) 34 0 0 0 0 0 0
  have b2 := SixAt.new ((w.alloc (.cells #[.int .i64 a, .int .i64 b, .int .i64 c, .int .i64 d, .int .i64 e, .int .i64 f] 33)).alloc (.cells #[.int .i64 0, .int .i64 0, .int .i64 0, .int .i64 0, .int .i64 0, .int .i64 0] 34)) 34 0 0 0 0 0 0
  simp only [World.size_alloc] at b1 b2
  exact ⟨((SixAt.new w 33 a b c d e f).below (below_new _ _)).below (below_new _ _), b1.below (below_new _ _), b2, below_step (below_step (below_new _ _) (below_new _ _)) (below_new _ _)⟩
theorem MadeAt.put0 {w : World} {a b c d e f p0 q0 p1 q1 p2 q2 : Int} {w1 : World} (h : MadeAt w a b c d e f p0 q0 p1 q1 p2 q2 w1) (p q : Int) : MadeAt w a b c d e f p q p1 q1 p2 q2 ((w1.setCell ⟨w.heap.size + 1 + 1, 0, none⟩ (.int .i64 p)).setCell ⟨w.heap.size + 1 + 1, 1, none⟩ (.int .i64 q)) :=
  ⟨(h.x.other (by omega) _).other (by omega) _, (h.r.other (by omega) _).other (by omega) _, h.l.put0 p q, (h.bel.setCell (by simp; omega) _).setCell (by simp; omega) _⟩
theorem MadeAt.put1 {w : World} {a b c d e f p0 q0 p1 q1 p2 q2 : Int} {w1 : World} (h : MadeAt w a b c d e f p0 q0 p1 q1 p2 q2 w1) (p q : Int) : MadeAt w a b c d e f p0 q0 p q p2 q2 ((w1.setCell ⟨w.heap.size + 1 + 1, 2, none⟩ (.int .i64 p)).setCell ⟨w.heap.size + 1 + 1, 3, none⟩ (.int .i64 q)) :=
  ⟨(h.x.other (by omega) _).other (by omega) _, (h.r.other (by omega) _).other (by omega) _, h.l.put1 p q, (h.bel.setCell (by simp; omega) _).setCell (by simp; omega) _⟩
theorem MadeAt.put2 {w : World} {a b c d e f p0 q0 p1 q1 p2 q2 : Int} {w1 : World} (h : MadeAt w a b c d e f p0 q0 p1 q1 p2 q2 w1) (p q : Int) : MadeAt w a b c d e f p0 q0 p1 q1 p q ((w1.setCell ⟨w.heap.size + 1 + 1, 4, none⟩ (.int .i64 p)).setCell ⟨w.heap.size + 1 + 1, 5, none⟩ (.int .i64 q)) :=
  ⟨(h.x.other (by omega) _).other (by omega) _, (h.r.other (by omega) _).other (by omega) _, h.l.put2 p q, (h.bel.setCell (by simp; omega) _).setCell (by simp; omega) _⟩
theorem SixAt.far {w : World} {A : Nat} {a b c d e f : Int} (h : SixAt w A a b c d e f) {B : Nat} (hB : A < B) (u v : Value) : SixAt ((w.setCell ⟨B, 0, none⟩ u).setCell ⟨B, 1, none⟩ v) A a b c d e f :=
  (h.other (by omega) _).other (by omega) _
theorem MadeAt.far {w : World} {a b c d e f p0 q0 p1 q1 p2 q2 : Int} {w1 : World} (h : MadeAt w a b c d e f p0 q0 p1 q1 p2 q2 w1) {B : Nat} (hB : w.heap.size + 1 + 1 < B) (u v : Value) : MadeAt w a b c d e f p0 q0 p1 q1 p2 q2 ((w1.setCell ⟨B, 0, none⟩ u).setCell ⟨B, 1, none⟩ v) :=
  ⟨h.x.far (by omega) _ _, h.r.far (by omega) _ _, h.l.far hB _ _, (h.bel.setCell (by simp; omega) _).setCell (by simp; omega) _⟩
theorem frozen_below {w w' : World} (hb : Below w.heap.size w w') {b o : Nat} (h : b < w.heap.size) (hf : w.frozen? ⟨b, o, none⟩ = false) : w'.frozen? ⟨b, o, none⟩ = false := (hb.frozen (p := ⟨b, o, none⟩) h).trans hf
theorem box_frozen (w : World) (n d : Int) (o : Nat) : (w.alloc (.cells #[.int .i64 n, .int .i64 d] 27)).frozen? ⟨w.heap.size, o, none⟩ = false := by simp [go_sem]
theorem box_set {v : World} {B : Nat} {u u' : Value} (k0 : v.cell? ⟨B, 0, none⟩ = some u) (k1 : v.cell? ⟨B, 1, none⟩ = some u') (p q : Int) : BoxAt ((v.setCell ⟨B, 0, none⟩ (.int .i64 p)).setCell ⟨B, 1, none⟩ (.int .i64 q)) B p q :=
  ⟨by have := World.block_lt_of_cell? v _ k0; simpa using this, by simp [go_sem, k0], by simp [go_sem, k1]⟩
/-- The j-th number once k rounds are done. -/
def vv (j k : Nat) (p : Int) : Int := if j < k then p else 0
theorem kept {wr : World} {A o1 o2 : Nat} {u1 u2 : Value} (h1 : wr.cell? ⟨A, o1, none⟩ = some u1) (h2 : wr.cell? ⟨A, o2, none⟩ = some u2) : ∀ w2, Below wr.heap.size wr w2 → (w2.cell? ⟨A, o1, none⟩ = some u1 ∧ w2.cell? ⟨A, o2, none⟩ = some u2 ∧ Below wr.heap.size wr w2) :=
  fun _ hb => ⟨cell_below hb h1, cell_below hb h2, hb⟩
theorem below_chain {B : Nat} {w0 w1 w2 : World} (a : Below B w0 w1) (b : Below w1.heap.size w1 w2) (hB : B ≤ w1.heap.size := by first | exact Nat.le_refl _ | simp) : Below B w0 w2 := a.trans (b.mono hB)
theorem new_k0 {wr v : World} {n d : Int} {t : TypeId} (hb : Below ((wr.alloc (.cells #[.int .i64 n, .int .i64 d] t)).drew).heap.size ((wr.alloc (.cells #[.int .i64 n, .int .i64 d] t)).drew) v) : v.cell? ⟨wr.heap.size, 0, none⟩ = some (.int .i64 n) := cell_below hb (by simp [go_sem])
theorem new_k1 {wr v : World} {n d : Int} {t : TypeId} (hb : Below ((wr.alloc (.cells #[.int .i64 n, .int .i64 d] t)).drew).heap.size ((wr.alloc (.cells #[.int .i64 n, .int .i64 d] t)).drew) v) : v.cell? ⟨wr.heap.size, 1, none⟩ = some (.int .i64 d) := cell_below hb (by simp [go_sem])
theorem new_k2 {wr v : World} {n d : Int} {t : TypeId} (hb : Below ((wr.alloc (.cells #[.int .i64 n, .int .i64 d] t)).drew).heap.size ((wr.alloc (.cells #[.int .i64 n, .int .i64 d] t)).drew) v) : v.frozen? ⟨wr.heap.size, 0, none⟩ = false := frozen_below hb (by simp) (by simp [go_sem])
theorem new_k3 {wr v : World} {n d : Int} {t : TypeId} (hb : Below ((wr.alloc (.cells #[.int .i64 n, .int .i64 d] t)).drew).heap.size ((wr.alloc (.cells #[.int .i64 n, .int .i64 d] t)).drew) v) : v.frozen? ⟨wr.heap.size, 1, none⟩ = false := frozen_below hb (by simp) (by simp [go_sem])
/-- How made ends where a pair gives no fraction. -/
def MadeNo (w : World) (e' : Ending) (w' : World) : Prop := ∃ p0 q0 p1 q1 p2 q2 : Int, e' = .returned (.tuple #[pairsV p0 q0 p1 q1 p2 q2, .bool false]) ∧ Below w.heap.size w w'

set_option maxRecDepth 100000 in
set_option maxHeartbeats 4000000 in
theorem made_yes (a b c d e f p0 q0 p1 q1 p2 q2 : Int) (w : World) (ad : Addr) (ht : Tab ad w) (fa : Fits a ∧ Fits b) (fc : Fits c ∧ Fits d) (fe : Fits e ∧ Fits f) (h0 : Ra.red a b = some (p0, q0)) (h1 : Ra.red c d = some (p1, q1)) (h2 : Ra.red e f = some (p2, q2)) :
    Calls Tryd.prog 11 #[pairsV a b c d e f] w fun e' w' => e' = .returned (.tuple #[pairsV p0 q0 p1 q1 p2 q2, .bool true]) ∧ Below w.heap.size w w' := by
  have T0 := Lib.hid ht
  have m0 := Make_some (a := ad) h0 fa.1 fa.2
  have M0 := Lib.hid m0
  have m1 := Make_some (a := ad) h1 fc.1 fc.2
  have M1 := Lib.hid m1
  have m2 := Make_some (a := ad) h2 fe.1 fe.2
  have M2 := Lib.hid m2
  have R0 := Lib.hid (MadeAt.new w a b c d e f)
  clear ht fa fc fe h0 m0 h1 m1 h2 m2
  go_enter Tryd.func11, Tryd.ntmps11
  go_wp2_with fail
  go_loopw [5] (fun u wr => ∃ k : Nat, k ≤ 3 ∧ u = .int .i64 k ∧ Hid (MadeAt w a b c d e f (vv 0 k p0) (vv 0 k q0) (vv 1 k p1) (vv 1 k q1) (vv 2 k p2) (vv 2 k q2) wr)) (fun u _ => 3 - (intOf u).toNat)
  case atStart => exact ⟨0, by omega, rfl, by simpa [vv] using R0⟩
  case round =>
    obtain ⟨k, hk, rfl, hM⟩ := hrel
    rcases (by omega : k = 0 ∨ k = 1 ∨ k = 2 ∨ k = 3) with rfl | rfl | rfl | rfl
    · have R : MadeAt w a b c d e f 0 0 0 0 0 0 wr := by simpa [vv] using hM.out
      have hlt : w.heap.size + 1 + 1 < wr.heap.size := R.l.lt
      have HS := Lib.hid (kept R.x.c0 R.x.c1)
      have RH := Lib.hid R
      clear hM R
      go_wp2_with fail
      go_region_held3 (fun w' => w'.cell? ⟨w.heap.size, 0, none⟩ = some (.int .i64 a) ∧ w'.cell? ⟨w.heap.size, 1, none⟩ = some (.int .i64 b) ∧ Below wr.heap.size wr w') (first | with_reducible exact HS.out _ (Below.refl _ _).drew | with_reducible exact HS.out _ (below_new _ _).drew | with_reducible exact HS.out _ Q | with_reducible exact HS.out _ (Q.alloc Q.size _) | with_reducible exact HS.out _ ((Q.setCell (Nat.le_refl _) _).setCell (Nat.le_refl _) _) | with_reducible exact HS.out _ (((Q.alloc Q.size _).setCell Q.size _).setCell Q.size _))
        ((go_at_call 14; ((with_reducible refine (M0.out _ ?_).mono ?_); (exact RH.out.bel |> fun hb => T0.out.below (below_step hb (by first | with_reducible exact (Below.refl _ _).drew | with_reducible exact (below_new _ _).drew))); rintro e' v ⟨rfl, hb4⟩; (first | (with_reducible have Q := below_chain (Below.refl wr.heap.size wr).drew hb4) | (with_reducible have Q := below_chain (below_new wr _).drew hb4)); (try (with_reducible have k0 := new_k0 hb4)); (try (with_reducible have k1 := new_k1 hb4)); (try (with_reducible have k2 := new_k2 hb4)); (try (with_reducible have k3 := new_k3 hb4)))))
      all_goals
        rename_i hh
        have hMM := Lib.hid (RH.out.step hh.2.2)
        first
          | ((with_reducible have hbx := Lib.hid (box_set k0 k1 p0 q0)); clear hh k0 k1 k2 k3 Q; generalize (v.setCell ⟨wr.heap.size, 0, none⟩ (.int .i64 p0)).setCell ⟨wr.heap.size, 1, none⟩ (.int .i64 q0) = V at *)
          | (have hbx := Lib.hid (BoxAt.new v p0 q0); clear hh Q; generalize v.alloc (.cells #[.int .i64 p0, .int .i64 q0] 27) = V at *)
        have b0 := hbx.out.2.1; have b1 := hbx.out.2.2
        obtain ⟨z0, z1, z2, z3, z4, z5, z6, z7⟩ := hMM.out.l
        have g0 := z7 0; have g1 := z7 1; have g2 := z7 2; have g3 := z7 3; have g4 := z7 4; have g5 := z7 5
        clear z7 hbx
        go_wp2_with fail
        go_roundw
        case rel => exact ⟨1, by omega, by go_num, Lib.hid (by simpa [vv] using hMM.out.put0 p0 q0)⟩
        case measure => simp [intOf]
    · have R : MadeAt w a b c d e f p0 q0 0 0 0 0 wr := by simpa [vv] using hM.out
      have hlt : w.heap.size + 1 + 1 < wr.heap.size := R.l.lt
      have HS := Lib.hid (kept R.x.c2 R.x.c3)
      have RH := Lib.hid R
      clear hM R
      go_wp2_with fail
      go_region_held3 (fun w' => w'.cell? ⟨w.heap.size, 2, none⟩ = some (.int .i64 c) ∧ w'.cell? ⟨w.heap.size, 3, none⟩ = some (.int .i64 d) ∧ Below wr.heap.size wr w') (first | with_reducible exact HS.out _ (Below.refl _ _).drew | with_reducible exact HS.out _ (below_new _ _).drew | with_reducible exact HS.out _ Q | with_reducible exact HS.out _ (Q.alloc Q.size _) | with_reducible exact HS.out _ ((Q.setCell (Nat.le_refl _) _).setCell (Nat.le_refl _) _) | with_reducible exact HS.out _ (((Q.alloc Q.size _).setCell Q.size _).setCell Q.size _))
        ((go_at_call 14; ((with_reducible refine (M1.out _ ?_).mono ?_); (exact RH.out.bel |> fun hb => T0.out.below (below_step hb (by first | with_reducible exact (Below.refl _ _).drew | with_reducible exact (below_new _ _).drew))); rintro e' v ⟨rfl, hb4⟩; (first | (with_reducible have Q := below_chain (Below.refl wr.heap.size wr).drew hb4) | (with_reducible have Q := below_chain (below_new wr _).drew hb4)); (try (with_reducible have k0 := new_k0 hb4)); (try (with_reducible have k1 := new_k1 hb4)); (try (with_reducible have k2 := new_k2 hb4)); (try (with_reducible have k3 := new_k3 hb4)))))
      all_goals
        rename_i hh
        have hMM := Lib.hid (RH.out.step hh.2.2)
        first
          | ((with_reducible have hbx := Lib.hid (box_set k0 k1 p1 q1)); clear hh k0 k1 k2 k3 Q; generalize (v.setCell ⟨wr.heap.size, 0, none⟩ (.int .i64 p1)).setCell ⟨wr.heap.size, 1, none⟩ (.int .i64 q1) = V at *)
          | (have hbx := Lib.hid (BoxAt.new v p1 q1); clear hh Q; generalize v.alloc (.cells #[.int .i64 p1, .int .i64 q1] 27) = V at *)
        have b0 := hbx.out.2.1; have b1 := hbx.out.2.2
        obtain ⟨z0, z1, z2, z3, z4, z5, z6, z7⟩ := hMM.out.l
        have g0 := z7 0; have g1 := z7 1; have g2 := z7 2; have g3 := z7 3; have g4 := z7 4; have g5 := z7 5
        clear z7 hbx
        go_wp2_with fail
        go_roundw
        case rel => exact ⟨2, by omega, by go_num, Lib.hid (by simpa [vv] using hMM.out.put1 p1 q1)⟩
        case measure => simp [intOf]
    · have R : MadeAt w a b c d e f p0 q0 p1 q1 0 0 wr := by simpa [vv] using hM.out
      have hlt : w.heap.size + 1 + 1 < wr.heap.size := R.l.lt
      have HS := Lib.hid (kept R.x.c4 R.x.c5)
      have RH := Lib.hid R
      clear hM R
      go_wp2_with fail
      go_region_held3 (fun w' => w'.cell? ⟨w.heap.size, 4, none⟩ = some (.int .i64 e) ∧ w'.cell? ⟨w.heap.size, 5, none⟩ = some (.int .i64 f) ∧ Below wr.heap.size wr w') (first | with_reducible exact HS.out _ (Below.refl _ _).drew | with_reducible exact HS.out _ (below_new _ _).drew | with_reducible exact HS.out _ Q | with_reducible exact HS.out _ (Q.alloc Q.size _) | with_reducible exact HS.out _ ((Q.setCell (Nat.le_refl _) _).setCell (Nat.le_refl _) _) | with_reducible exact HS.out _ (((Q.alloc Q.size _).setCell Q.size _).setCell Q.size _))
        ((go_at_call 14; ((with_reducible refine (M2.out _ ?_).mono ?_); (exact RH.out.bel |> fun hb => T0.out.below (below_step hb (by first | with_reducible exact (Below.refl _ _).drew | with_reducible exact (below_new _ _).drew))); rintro e' v ⟨rfl, hb4⟩; (first | (with_reducible have Q := below_chain (Below.refl wr.heap.size wr).drew hb4) | (with_reducible have Q := below_chain (below_new wr _).drew hb4)); (try (with_reducible have k0 := new_k0 hb4)); (try (with_reducible have k1 := new_k1 hb4)); (try (with_reducible have k2 := new_k2 hb4)); (try (with_reducible have k3 := new_k3 hb4)))))
      all_goals
        rename_i hh
        have hMM := Lib.hid (RH.out.step hh.2.2)
        first
          | ((with_reducible have hbx := Lib.hid (box_set k0 k1 p2 q2)); clear hh k0 k1 k2 k3 Q; generalize (v.setCell ⟨wr.heap.size, 0, none⟩ (.int .i64 p2)).setCell ⟨wr.heap.size, 1, none⟩ (.int .i64 q2) = V at *)
          | (have hbx := Lib.hid (BoxAt.new v p2 q2); clear hh Q; generalize v.alloc (.cells #[.int .i64 p2, .int .i64 q2] 27) = V at *)
        have b0 := hbx.out.2.1; have b1 := hbx.out.2.2
        obtain ⟨z0, z1, z2, z3, z4, z5, z6, z7⟩ := hMM.out.l
        have g0 := z7 0; have g1 := z7 1; have g2 := z7 2; have g3 := z7 3; have g4 := z7 4; have g5 := z7 5
        clear z7 hbx
        go_wp2_with fail
        go_roundw
        case rel => exact ⟨3, by omega, by go_num, Lib.hid (by simpa [vv] using hMM.out.put2 p2 q2)⟩
        case measure => simp [intOf]
    · have R : MadeAt w a b c d e f p0 q0 p1 q1 p2 q2 wr := by simpa [vv] using hM.out
      have RH := Lib.hid R
      obtain ⟨z0, z1, z2, z3, z4, z5, z6, z7⟩ := R.l
      obtain ⟨y0, y1, y2, y3, y4, y5, y6, y7⟩ := R.r
      have g0 := y7 0; have g1 := y7 1; have g2 := y7 2; have g3 := y7 3; have g4 := y7 4; have g5 := y7 5
      clear R hM y7 z7
      go_wp2_with fail
      have RR := ((RH.out.r.put0 p0 q0).put1 p1 q1).put2 p2 q2
      have hB : Below w.heap.size w (((((((wr).setCell ⟨w.heap.size + 1, 0, none⟩ (.int .i64 p0)).setCell ⟨w.heap.size + 1, 1, none⟩ (.int .i64 q0)).setCell ⟨w.heap.size + 1, 2, none⟩ (.int .i64 p1)).setCell ⟨w.heap.size + 1, 3, none⟩ (.int .i64 q1)).setCell ⟨w.heap.size + 1, 4, none⟩ (.int .i64 p2)).setCell ⟨w.heap.size + 1, 5, none⟩ (.int .i64 q2)) := (((((((RH.out.bel).setCell (Nat.le_succ _) _).setCell (Nat.le_succ _) _).setCell (Nat.le_succ _) _).setCell (Nat.le_succ _) _).setCell (Nat.le_succ _) _).setCell (Nat.le_succ _) _)
      generalize ((((((wr).setCell ⟨w.heap.size + 1, 0, none⟩ (.int .i64 p0)).setCell ⟨w.heap.size + 1, 1, none⟩ (.int .i64 q0)).setCell ⟨w.heap.size + 1, 2, none⟩ (.int .i64 p1)).setCell ⟨w.heap.size + 1, 3, none⟩ (.int .i64 q1)).setCell ⟨w.heap.size + 1, 4, none⟩ (.int .i64 p2)).setCell ⟨w.heap.size + 1, 5, none⟩ (.int .i64 q2) = VF at RR hB ⊢
      obtain ⟨s0, s1, s2, s3, s4, s5, s6, s7⟩ := RR
      refine bodyPost_ret (v := .tuple #[pairsV p0 q0 p1 q1 p2 q2, .bool true]) (by simp [results, Tryd.results11, go_sem, s1, s2, s3, s4, s5, s6]) rfl ⟨rfl, hB⟩

set_option maxRecDepth 100000 in
set_option maxHeartbeats 4000000 in
theorem made_no0 (a b c d e f  : Int) (w : World) (ad : Addr) (ht : Tab ad w) (fa : Fits a ∧ Fits b) (h0 : Ra.red a b = none) :
    Calls Tryd.prog 11 #[pairsV a b c d e f] w (MadeNo w) := by
  have T0 := Lib.hid ht
  have m0 := Make_none (a := ad) h0 fa.1 fa.2
  have M0 := Lib.hid m0
  have R0 := Lib.hid (MadeAt.new w a b c d e f)
  clear ht fa h0 m0
  go_enter Tryd.func11, Tryd.ntmps11
  go_wp2_with fail
  go_loopw [5] (fun u wr => ∃ k : Nat, k ≤ 0 ∧ u = .int .i64 k ∧ Hid (MadeAt w a b c d e f (vv 0 k 0) (vv 0 k 0) (vv 1 k 0) (vv 1 k 0) (vv 2 k 0) (vv 2 k 0) wr)) (fun u _ => 3 - (intOf u).toNat)
  case atStart => exact ⟨0, by omega, rfl, by simpa [vv] using R0⟩
  case round =>
    obtain ⟨k, hk, rfl, hM⟩ := hrel
    rcases (by omega : k = 0) with rfl
    · have R : MadeAt w a b c d e f 0 0 0 0 0 0 wr := by simpa [vv] using hM.out
      have hlt : w.heap.size + 1 + 1 < wr.heap.size := R.l.lt
      have HS := Lib.hid (kept R.x.c0 R.x.c1)
      have RH := Lib.hid R
      clear hM R
      go_wp2_with fail
      go_region_held3 (fun w' => w'.cell? ⟨w.heap.size, 0, none⟩ = some (.int .i64 a) ∧ w'.cell? ⟨w.heap.size, 1, none⟩ = some (.int .i64 b) ∧ Below wr.heap.size wr w') (first | with_reducible exact HS.out _ (Below.refl _ _).drew | with_reducible exact HS.out _ (below_new _ _).drew | with_reducible exact HS.out _ Q | with_reducible exact HS.out _ (Q.alloc Q.size _) | with_reducible exact HS.out _ ((Q.setCell (Nat.le_refl _) _).setCell (Nat.le_refl _) _) | with_reducible exact HS.out _ (((Q.alloc Q.size _).setCell Q.size _).setCell Q.size _))
        ((go_at_call 14; ((with_reducible refine (M0.out _ ?_).mono ?_); (exact RH.out.bel |> fun hb => T0.out.below (below_step hb (by first | with_reducible exact (Below.refl _ _).drew | with_reducible exact (below_new _ _).drew))); rintro e' v ⟨rfl, hb4⟩; (first | (with_reducible have Q := below_chain (Below.refl wr.heap.size wr).drew hb4) | (with_reducible have Q := below_chain (below_new wr _).drew hb4)); (try (with_reducible have k0 := new_k0 hb4)); (try (with_reducible have k1 := new_k1 hb4)); (try (with_reducible have k2 := new_k2 hb4)); (try (with_reducible have k3 := new_k3 hb4)))))
      all_goals
        rename_i hh
        have hMM := Lib.hid (RH.out.step hh.2.2)
        first
          | ((with_reducible have hbx := Lib.hid (box_set k0 k1 0 0)); clear hh k0 k1 k2 k3 Q; generalize (v.setCell ⟨wr.heap.size, 0, none⟩ (.int .i64 0)).setCell ⟨wr.heap.size, 1, none⟩ (.int .i64 0) = V at *)
          | (have hbx := Lib.hid (BoxAt.new v 0 0); clear hh Q; generalize v.alloc (.cells #[.int .i64 0, .int .i64 0] 27) = V at *)
        have b0 := hbx.out.2.1; have b1 := hbx.out.2.2
        obtain ⟨z0, z1, z2, z3, z4, z5, z6, z7⟩ := hMM.out.l
        have g0 := z7 0; have g1 := z7 1; have g2 := z7 2; have g3 := z7 3; have g4 := z7 4; have g5 := z7 5
        clear z7 hbx
        obtain ⟨y0, y1, y2, y3, y4, y5, y6, y7⟩ := hMM.out.r
        have f0 := y7 0; have f1 := y7 1; have f2 := y7 2; have f3 := y7 3; have f4 := y7 4; have f5 := y7 5
        clear y7
        go_wp2_with fail
        have RR := ((hMM.out.r.put0 0 0).put1 0 0).put2 0 0
        have hB : Below w.heap.size w (((((((V).setCell ⟨w.heap.size + 1, 0, none⟩ (.int .i64 0)).setCell ⟨w.heap.size + 1, 1, none⟩ (.int .i64 0)).setCell ⟨w.heap.size + 1, 2, none⟩ (.int .i64 0)).setCell ⟨w.heap.size + 1, 3, none⟩ (.int .i64 0)).setCell ⟨w.heap.size + 1, 4, none⟩ (.int .i64 0)).setCell ⟨w.heap.size + 1, 5, none⟩ (.int .i64 0)) := (((((((hMM.out.bel).setCell (Nat.le_succ _) _).setCell (Nat.le_succ _) _).setCell (Nat.le_succ _) _).setCell (Nat.le_succ _) _).setCell (Nat.le_succ _) _).setCell (Nat.le_succ _) _)
        generalize ((((((V).setCell ⟨w.heap.size + 1, 0, none⟩ (.int .i64 0)).setCell ⟨w.heap.size + 1, 1, none⟩ (.int .i64 0)).setCell ⟨w.heap.size + 1, 2, none⟩ (.int .i64 0)).setCell ⟨w.heap.size + 1, 3, none⟩ (.int .i64 0)).setCell ⟨w.heap.size + 1, 4, none⟩ (.int .i64 0)).setCell ⟨w.heap.size + 1, 5, none⟩ (.int .i64 0) = VF at RR hB ⊢
        obtain ⟨s0, s1, s2, s3, s4, s5, s6, s7⟩ := RR
        refine bodyPost_ret (v := .tuple #[pairsV 0 0 0 0 0 0, .bool false]) (by simp [results, Tryd.results11, go_sem, s1, s2, s3, s4, s5, s6]) rfl ⟨_, _, _, _, _, _, rfl, hB⟩

set_option maxRecDepth 100000 in
set_option maxHeartbeats 4000000 in
theorem made_no1 (a b c d e f p0 q0 : Int) (w : World) (ad : Addr) (ht : Tab ad w) (fa : Fits a ∧ Fits b) (fc : Fits c ∧ Fits d) (h0 : Ra.red a b = some (p0, q0)) (h1 : Ra.red c d = none) :
    Calls Tryd.prog 11 #[pairsV a b c d e f] w (MadeNo w) := by
  have T0 := Lib.hid ht
  have m0 := Make_some (a := ad) h0 fa.1 fa.2
  have M0 := Lib.hid m0
  have m1 := Make_none (a := ad) h1 fc.1 fc.2
  have M1 := Lib.hid m1
  have R0 := Lib.hid (MadeAt.new w a b c d e f)
  clear ht fa fc h0 m0 h1 m1
  go_enter Tryd.func11, Tryd.ntmps11
  go_wp2_with fail
  go_loopw [5] (fun u wr => ∃ k : Nat, k ≤ 1 ∧ u = .int .i64 k ∧ Hid (MadeAt w a b c d e f (vv 0 k p0) (vv 0 k q0) (vv 1 k 0) (vv 1 k 0) (vv 2 k 0) (vv 2 k 0) wr)) (fun u _ => 3 - (intOf u).toNat)
  case atStart => exact ⟨0, by omega, rfl, by simpa [vv] using R0⟩
  case round =>
    obtain ⟨k, hk, rfl, hM⟩ := hrel
    rcases (by omega : k = 0 ∨ k = 1) with rfl | rfl
    · have R : MadeAt w a b c d e f 0 0 0 0 0 0 wr := by simpa [vv] using hM.out
      have hlt : w.heap.size + 1 + 1 < wr.heap.size := R.l.lt
      have HS := Lib.hid (kept R.x.c0 R.x.c1)
      have RH := Lib.hid R
      clear hM R
      go_wp2_with fail
      go_region_held3 (fun w' => w'.cell? ⟨w.heap.size, 0, none⟩ = some (.int .i64 a) ∧ w'.cell? ⟨w.heap.size, 1, none⟩ = some (.int .i64 b) ∧ Below wr.heap.size wr w') (first | with_reducible exact HS.out _ (Below.refl _ _).drew | with_reducible exact HS.out _ (below_new _ _).drew | with_reducible exact HS.out _ Q | with_reducible exact HS.out _ (Q.alloc Q.size _) | with_reducible exact HS.out _ ((Q.setCell (Nat.le_refl _) _).setCell (Nat.le_refl _) _) | with_reducible exact HS.out _ (((Q.alloc Q.size _).setCell Q.size _).setCell Q.size _))
        ((go_at_call 14; ((with_reducible refine (M0.out _ ?_).mono ?_); (exact RH.out.bel |> fun hb => T0.out.below (below_step hb (by first | with_reducible exact (Below.refl _ _).drew | with_reducible exact (below_new _ _).drew))); rintro e' v ⟨rfl, hb4⟩; (first | (with_reducible have Q := below_chain (Below.refl wr.heap.size wr).drew hb4) | (with_reducible have Q := below_chain (below_new wr _).drew hb4)); (try (with_reducible have k0 := new_k0 hb4)); (try (with_reducible have k1 := new_k1 hb4)); (try (with_reducible have k2 := new_k2 hb4)); (try (with_reducible have k3 := new_k3 hb4)))))
      all_goals
        rename_i hh
        have hMM := Lib.hid (RH.out.step hh.2.2)
        first
          | ((with_reducible have hbx := Lib.hid (box_set k0 k1 p0 q0)); clear hh k0 k1 k2 k3 Q; generalize (v.setCell ⟨wr.heap.size, 0, none⟩ (.int .i64 p0)).setCell ⟨wr.heap.size, 1, none⟩ (.int .i64 q0) = V at *)
          | (have hbx := Lib.hid (BoxAt.new v p0 q0); clear hh Q; generalize v.alloc (.cells #[.int .i64 p0, .int .i64 q0] 27) = V at *)
        have b0 := hbx.out.2.1; have b1 := hbx.out.2.2
        obtain ⟨z0, z1, z2, z3, z4, z5, z6, z7⟩ := hMM.out.l
        have g0 := z7 0; have g1 := z7 1; have g2 := z7 2; have g3 := z7 3; have g4 := z7 4; have g5 := z7 5
        clear z7 hbx
        go_wp2_with fail
        go_roundw
        case rel => exact ⟨1, by omega, by go_num, Lib.hid (by simpa [vv] using hMM.out.put0 p0 q0)⟩
        case measure => simp [intOf]
    · have R : MadeAt w a b c d e f p0 q0 0 0 0 0 wr := by simpa [vv] using hM.out
      have hlt : w.heap.size + 1 + 1 < wr.heap.size := R.l.lt
      have HS := Lib.hid (kept R.x.c2 R.x.c3)
      have RH := Lib.hid R
      clear hM R
      go_wp2_with fail
      go_region_held3 (fun w' => w'.cell? ⟨w.heap.size, 2, none⟩ = some (.int .i64 c) ∧ w'.cell? ⟨w.heap.size, 3, none⟩ = some (.int .i64 d) ∧ Below wr.heap.size wr w') (first | with_reducible exact HS.out _ (Below.refl _ _).drew | with_reducible exact HS.out _ (below_new _ _).drew | with_reducible exact HS.out _ Q | with_reducible exact HS.out _ (Q.alloc Q.size _) | with_reducible exact HS.out _ ((Q.setCell (Nat.le_refl _) _).setCell (Nat.le_refl _) _) | with_reducible exact HS.out _ (((Q.alloc Q.size _).setCell Q.size _).setCell Q.size _))
        ((go_at_call 14; ((with_reducible refine (M1.out _ ?_).mono ?_); (exact RH.out.bel |> fun hb => T0.out.below (below_step hb (by first | with_reducible exact (Below.refl _ _).drew | with_reducible exact (below_new _ _).drew))); rintro e' v ⟨rfl, hb4⟩; (first | (with_reducible have Q := below_chain (Below.refl wr.heap.size wr).drew hb4) | (with_reducible have Q := below_chain (below_new wr _).drew hb4)); (try (with_reducible have k0 := new_k0 hb4)); (try (with_reducible have k1 := new_k1 hb4)); (try (with_reducible have k2 := new_k2 hb4)); (try (with_reducible have k3 := new_k3 hb4)))))
      all_goals
        rename_i hh
        have hMM := Lib.hid (RH.out.step hh.2.2)
        first
          | ((with_reducible have hbx := Lib.hid (box_set k0 k1 0 0)); clear hh k0 k1 k2 k3 Q; generalize (v.setCell ⟨wr.heap.size, 0, none⟩ (.int .i64 0)).setCell ⟨wr.heap.size, 1, none⟩ (.int .i64 0) = V at *)
          | (have hbx := Lib.hid (BoxAt.new v 0 0); clear hh Q; generalize v.alloc (.cells #[.int .i64 0, .int .i64 0] 27) = V at *)
        have b0 := hbx.out.2.1; have b1 := hbx.out.2.2
        obtain ⟨z0, z1, z2, z3, z4, z5, z6, z7⟩ := hMM.out.l
        have g0 := z7 0; have g1 := z7 1; have g2 := z7 2; have g3 := z7 3; have g4 := z7 4; have g5 := z7 5
        clear z7 hbx
        obtain ⟨y0, y1, y2, y3, y4, y5, y6, y7⟩ := hMM.out.r
        have f0 := y7 0; have f1 := y7 1; have f2 := y7 2; have f3 := y7 3; have f4 := y7 4; have f5 := y7 5
        clear y7
        go_wp2_with fail
        have RR := ((hMM.out.r.put0 p0 q0).put1 0 0).put2 0 0
        have hB : Below w.heap.size w (((((((V).setCell ⟨w.heap.size + 1, 0, none⟩ (.int .i64 p0)).setCell ⟨w.heap.size + 1, 1, none⟩ (.int .i64 q0)).setCell ⟨w.heap.size + 1, 2, none⟩ (.int .i64 0)).setCell ⟨w.heap.size + 1, 3, none⟩ (.int .i64 0)).setCell ⟨w.heap.size + 1, 4, none⟩ (.int .i64 0)).setCell ⟨w.heap.size + 1, 5, none⟩ (.int .i64 0)) := (((((((hMM.out.bel).setCell (Nat.le_succ _) _).setCell (Nat.le_succ _) _).setCell (Nat.le_succ _) _).setCell (Nat.le_succ _) _).setCell (Nat.le_succ _) _).setCell (Nat.le_succ _) _)
        generalize ((((((V).setCell ⟨w.heap.size + 1, 0, none⟩ (.int .i64 p0)).setCell ⟨w.heap.size + 1, 1, none⟩ (.int .i64 q0)).setCell ⟨w.heap.size + 1, 2, none⟩ (.int .i64 0)).setCell ⟨w.heap.size + 1, 3, none⟩ (.int .i64 0)).setCell ⟨w.heap.size + 1, 4, none⟩ (.int .i64 0)).setCell ⟨w.heap.size + 1, 5, none⟩ (.int .i64 0) = VF at RR hB ⊢
        obtain ⟨s0, s1, s2, s3, s4, s5, s6, s7⟩ := RR
        refine bodyPost_ret (v := .tuple #[pairsV p0 q0 0 0 0 0, .bool false]) (by simp [results, Tryd.results11, go_sem, s1, s2, s3, s4, s5, s6]) rfl ⟨_, _, _, _, _, _, rfl, hB⟩

set_option maxRecDepth 100000 in
set_option maxHeartbeats 4000000 in
theorem made_no2 (a b c d e f p0 q0 p1 q1 : Int) (w : World) (ad : Addr) (ht : Tab ad w) (fa : Fits a ∧ Fits b) (fc : Fits c ∧ Fits d) (fe : Fits e ∧ Fits f) (h0 : Ra.red a b = some (p0, q0)) (h1 : Ra.red c d = some (p1, q1)) (h2 : Ra.red e f = none) :
    Calls Tryd.prog 11 #[pairsV a b c d e f] w (MadeNo w) := by
  have T0 := Lib.hid ht
  have m0 := Make_some (a := ad) h0 fa.1 fa.2
  have M0 := Lib.hid m0
  have m1 := Make_some (a := ad) h1 fc.1 fc.2
  have M1 := Lib.hid m1
  have m2 := Make_none (a := ad) h2 fe.1 fe.2
  have M2 := Lib.hid m2
  have R0 := Lib.hid (MadeAt.new w a b c d e f)
  clear ht fa fc fe h0 m0 h1 m1 h2 m2
  go_enter Tryd.func11, Tryd.ntmps11
  go_wp2_with fail
  go_loopw [5] (fun u wr => ∃ k : Nat, k ≤ 2 ∧ u = .int .i64 k ∧ Hid (MadeAt w a b c d e f (vv 0 k p0) (vv 0 k q0) (vv 1 k p1) (vv 1 k q1) (vv 2 k 0) (vv 2 k 0) wr)) (fun u _ => 3 - (intOf u).toNat)
  case atStart => exact ⟨0, by omega, rfl, by simpa [vv] using R0⟩
  case round =>
    obtain ⟨k, hk, rfl, hM⟩ := hrel
    rcases (by omega : k = 0 ∨ k = 1 ∨ k = 2) with rfl | rfl | rfl
    · have R : MadeAt w a b c d e f 0 0 0 0 0 0 wr := by simpa [vv] using hM.out
      have hlt : w.heap.size + 1 + 1 < wr.heap.size := R.l.lt
      have HS := Lib.hid (kept R.x.c0 R.x.c1)
      have RH := Lib.hid R
      clear hM R
      go_wp2_with fail
      go_region_held3 (fun w' => w'.cell? ⟨w.heap.size, 0, none⟩ = some (.int .i64 a) ∧ w'.cell? ⟨w.heap.size, 1, none⟩ = some (.int .i64 b) ∧ Below wr.heap.size wr w') (first | with_reducible exact HS.out _ (Below.refl _ _).drew | with_reducible exact HS.out _ (below_new _ _).drew | with_reducible exact HS.out _ Q | with_reducible exact HS.out _ (Q.alloc Q.size _) | with_reducible exact HS.out _ ((Q.setCell (Nat.le_refl _) _).setCell (Nat.le_refl _) _) | with_reducible exact HS.out _ (((Q.alloc Q.size _).setCell Q.size _).setCell Q.size _))
        ((go_at_call 14; ((with_reducible refine (M0.out _ ?_).mono ?_); (exact RH.out.bel |> fun hb => T0.out.below (below_step hb (by first | with_reducible exact (Below.refl _ _).drew | with_reducible exact (below_new _ _).drew))); rintro e' v ⟨rfl, hb4⟩; (first | (with_reducible have Q := below_chain (Below.refl wr.heap.size wr).drew hb4) | (with_reducible have Q := below_chain (below_new wr _).drew hb4)); (try (with_reducible have k0 := new_k0 hb4)); (try (with_reducible have k1 := new_k1 hb4)); (try (with_reducible have k2 := new_k2 hb4)); (try (with_reducible have k3 := new_k3 hb4)))))
      all_goals
        rename_i hh
        have hMM := Lib.hid (RH.out.step hh.2.2)
        first
          | ((with_reducible have hbx := Lib.hid (box_set k0 k1 p0 q0)); clear hh k0 k1 k2 k3 Q; generalize (v.setCell ⟨wr.heap.size, 0, none⟩ (.int .i64 p0)).setCell ⟨wr.heap.size, 1, none⟩ (.int .i64 q0) = V at *)
          | (have hbx := Lib.hid (BoxAt.new v p0 q0); clear hh Q; generalize v.alloc (.cells #[.int .i64 p0, .int .i64 q0] 27) = V at *)
        have b0 := hbx.out.2.1; have b1 := hbx.out.2.2
        obtain ⟨z0, z1, z2, z3, z4, z5, z6, z7⟩ := hMM.out.l
        have g0 := z7 0; have g1 := z7 1; have g2 := z7 2; have g3 := z7 3; have g4 := z7 4; have g5 := z7 5
        clear z7 hbx
        go_wp2_with fail
        go_roundw
        case rel => exact ⟨1, by omega, by go_num, Lib.hid (by simpa [vv] using hMM.out.put0 p0 q0)⟩
        case measure => simp [intOf]
    · have R : MadeAt w a b c d e f p0 q0 0 0 0 0 wr := by simpa [vv] using hM.out
      have hlt : w.heap.size + 1 + 1 < wr.heap.size := R.l.lt
      have HS := Lib.hid (kept R.x.c2 R.x.c3)
      have RH := Lib.hid R
      clear hM R
      go_wp2_with fail
      go_region_held3 (fun w' => w'.cell? ⟨w.heap.size, 2, none⟩ = some (.int .i64 c) ∧ w'.cell? ⟨w.heap.size, 3, none⟩ = some (.int .i64 d) ∧ Below wr.heap.size wr w') (first | with_reducible exact HS.out _ (Below.refl _ _).drew | with_reducible exact HS.out _ (below_new _ _).drew | with_reducible exact HS.out _ Q | with_reducible exact HS.out _ (Q.alloc Q.size _) | with_reducible exact HS.out _ ((Q.setCell (Nat.le_refl _) _).setCell (Nat.le_refl _) _) | with_reducible exact HS.out _ (((Q.alloc Q.size _).setCell Q.size _).setCell Q.size _))
        ((go_at_call 14; ((with_reducible refine (M1.out _ ?_).mono ?_); (exact RH.out.bel |> fun hb => T0.out.below (below_step hb (by first | with_reducible exact (Below.refl _ _).drew | with_reducible exact (below_new _ _).drew))); rintro e' v ⟨rfl, hb4⟩; (first | (with_reducible have Q := below_chain (Below.refl wr.heap.size wr).drew hb4) | (with_reducible have Q := below_chain (below_new wr _).drew hb4)); (try (with_reducible have k0 := new_k0 hb4)); (try (with_reducible have k1 := new_k1 hb4)); (try (with_reducible have k2 := new_k2 hb4)); (try (with_reducible have k3 := new_k3 hb4)))))
      all_goals
        rename_i hh
        have hMM := Lib.hid (RH.out.step hh.2.2)
        first
          | ((with_reducible have hbx := Lib.hid (box_set k0 k1 p1 q1)); clear hh k0 k1 k2 k3 Q; generalize (v.setCell ⟨wr.heap.size, 0, none⟩ (.int .i64 p1)).setCell ⟨wr.heap.size, 1, none⟩ (.int .i64 q1) = V at *)
          | (have hbx := Lib.hid (BoxAt.new v p1 q1); clear hh Q; generalize v.alloc (.cells #[.int .i64 p1, .int .i64 q1] 27) = V at *)
        have b0 := hbx.out.2.1; have b1 := hbx.out.2.2
        obtain ⟨z0, z1, z2, z3, z4, z5, z6, z7⟩ := hMM.out.l
        have g0 := z7 0; have g1 := z7 1; have g2 := z7 2; have g3 := z7 3; have g4 := z7 4; have g5 := z7 5
        clear z7 hbx
        go_wp2_with fail
        go_roundw
        case rel => exact ⟨2, by omega, by go_num, Lib.hid (by simpa [vv] using hMM.out.put1 p1 q1)⟩
        case measure => simp [intOf]
    · have R : MadeAt w a b c d e f p0 q0 p1 q1 0 0 wr := by simpa [vv] using hM.out
      have hlt : w.heap.size + 1 + 1 < wr.heap.size := R.l.lt
      have HS := Lib.hid (kept R.x.c4 R.x.c5)
      have RH := Lib.hid R
      clear hM R
      go_wp2_with fail
      go_region_held3 (fun w' => w'.cell? ⟨w.heap.size, 4, none⟩ = some (.int .i64 e) ∧ w'.cell? ⟨w.heap.size, 5, none⟩ = some (.int .i64 f) ∧ Below wr.heap.size wr w') (first | with_reducible exact HS.out _ (Below.refl _ _).drew | with_reducible exact HS.out _ (below_new _ _).drew | with_reducible exact HS.out _ Q | with_reducible exact HS.out _ (Q.alloc Q.size _) | with_reducible exact HS.out _ ((Q.setCell (Nat.le_refl _) _).setCell (Nat.le_refl _) _) | with_reducible exact HS.out _ (((Q.alloc Q.size _).setCell Q.size _).setCell Q.size _))
        ((go_at_call 14; ((with_reducible refine (M2.out _ ?_).mono ?_); (exact RH.out.bel |> fun hb => T0.out.below (below_step hb (by first | with_reducible exact (Below.refl _ _).drew | with_reducible exact (below_new _ _).drew))); rintro e' v ⟨rfl, hb4⟩; (first | (with_reducible have Q := below_chain (Below.refl wr.heap.size wr).drew hb4) | (with_reducible have Q := below_chain (below_new wr _).drew hb4)); (try (with_reducible have k0 := new_k0 hb4)); (try (with_reducible have k1 := new_k1 hb4)); (try (with_reducible have k2 := new_k2 hb4)); (try (with_reducible have k3 := new_k3 hb4)))))
      all_goals
        rename_i hh
        have hMM := Lib.hid (RH.out.step hh.2.2)
        first
          | ((with_reducible have hbx := Lib.hid (box_set k0 k1 0 0)); clear hh k0 k1 k2 k3 Q; generalize (v.setCell ⟨wr.heap.size, 0, none⟩ (.int .i64 0)).setCell ⟨wr.heap.size, 1, none⟩ (.int .i64 0) = V at *)
          | (have hbx := Lib.hid (BoxAt.new v 0 0); clear hh Q; generalize v.alloc (.cells #[.int .i64 0, .int .i64 0] 27) = V at *)
        have b0 := hbx.out.2.1; have b1 := hbx.out.2.2
        obtain ⟨z0, z1, z2, z3, z4, z5, z6, z7⟩ := hMM.out.l
        have g0 := z7 0; have g1 := z7 1; have g2 := z7 2; have g3 := z7 3; have g4 := z7 4; have g5 := z7 5
        clear z7 hbx
        obtain ⟨y0, y1, y2, y3, y4, y5, y6, y7⟩ := hMM.out.r
        have f0 := y7 0; have f1 := y7 1; have f2 := y7 2; have f3 := y7 3; have f4 := y7 4; have f5 := y7 5
        clear y7
        go_wp2_with fail
        have RR := ((hMM.out.r.put0 p0 q0).put1 p1 q1).put2 0 0
        have hB : Below w.heap.size w (((((((V).setCell ⟨w.heap.size + 1, 0, none⟩ (.int .i64 p0)).setCell ⟨w.heap.size + 1, 1, none⟩ (.int .i64 q0)).setCell ⟨w.heap.size + 1, 2, none⟩ (.int .i64 p1)).setCell ⟨w.heap.size + 1, 3, none⟩ (.int .i64 q1)).setCell ⟨w.heap.size + 1, 4, none⟩ (.int .i64 0)).setCell ⟨w.heap.size + 1, 5, none⟩ (.int .i64 0)) := (((((((hMM.out.bel).setCell (Nat.le_succ _) _).setCell (Nat.le_succ _) _).setCell (Nat.le_succ _) _).setCell (Nat.le_succ _) _).setCell (Nat.le_succ _) _).setCell (Nat.le_succ _) _)
        generalize ((((((V).setCell ⟨w.heap.size + 1, 0, none⟩ (.int .i64 p0)).setCell ⟨w.heap.size + 1, 1, none⟩ (.int .i64 q0)).setCell ⟨w.heap.size + 1, 2, none⟩ (.int .i64 p1)).setCell ⟨w.heap.size + 1, 3, none⟩ (.int .i64 q1)).setCell ⟨w.heap.size + 1, 4, none⟩ (.int .i64 0)).setCell ⟨w.heap.size + 1, 5, none⟩ (.int .i64 0) = VF at RR hB ⊢
        obtain ⟨s0, s1, s2, s3, s4, s5, s6, s7⟩ := RR
        refine bodyPost_ret (v := .tuple #[pairsV p0 q0 p1 q1 0 0, .bool false]) (by simp [results, Tryd.results11, go_sem, s1, s2, s3, s4, s5, s6]) rfl ⟨_, _, _, _, _, _, rfl, hB⟩

theorem made_none (a b c d e f : Int) (w : World) (ad : Addr) (ht : Tab ad w) (fa : Fits a ∧ Fits b) (fc : Fits c ∧ Fits d) (fe : Fits e ∧ Fits f) (h : Ra.red a b = none ∨ Ra.red c d = none ∨ Ra.red e f = none) :
    Calls Tryd.prog 11 #[pairsV a b c d e f] w (MadeNo w) := by
  cases h0 : Ra.red a b with
  | none => exact made_no0 a b c d e f w ad ht fa h0
  | some x =>
    obtain ⟨p0, q0⟩ := x
    cases h1 : Ra.red c d with
    | none => exact made_no1 a b c d e f p0 q0 w ad ht fa fc h0 h1
    | some y =>
      obtain ⟨p1, q1⟩ := y
      cases h2 : Ra.red e f with
      | none => exact made_no2 a b c d e f p0 q0 p1 q1 w ad ht fa fc fe h0 h1 h2
      | some z => rw [h0, h1, h2] at h; rcases h with h | h | h <;> cases h
end Go.Proofs.YtkkhmgcjaehnkaaDoor
