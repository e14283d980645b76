/-
  sameArcs; the statements' common examples.
-/
import Derived.Test.YtiolmcnngpaapaaPb
import Derived.Test.YtiolmcnngpaapaaPq
namespace Go.Proofs.Ytiolmcnngpaapaa
open Go.RowKit Go.Shelf Cl
open Cy (Arc)

set_option maxRecDepth 100000 in
set_option maxHeartbeats 2000000 in
/-- Two equal lists of arcs are told so. -/
theorem sameArcs_yes (A : List Arc) (aa ba : Option Addr) (ac bc : Nat) (w : World) (hA : ArcA w aa ac A) (hB : ArcA w ba bc A) :
    Calls Try.prog 21 #[.slice aa A.length ac, .slice ba A.length bc] w fun e w' => e = .returned (.bool true) ∧ Below w.heap.size w w' := by
  have hla := hA.len
  unfold maxLen at hla
  have HA := Lib.hid hA; have HB := Lib.hid hB
  have e1 : ((A.length : Int) != (A.length : Int)) = false := by simp
  have e2 : ((A.length : Int) == (A.length : Int)) = true := by simp
  clear hA hB
  go_enter Try.func21, Try.ntmps21
  go_wp2_with fail
  go_loopw [5] (fun iv wr => ∃ i : Nat, i ≤ A.length ∧ iv = .int .i64 (i : Int) ∧ Hid (Below w.heap.size w wr)) (fun iv _ => A.length - (intOf iv).toNat)
  case atStart => exact ⟨0, Nat.zero_le _, rfl, Lib.hid (Below.refl _ _)⟩
  case round =>
    obtain ⟨i, hi, rfl, HG⟩ := hrel
    by_cases hlt : i < A.length
    · obtain ⟨b, off, rfl, hb, hc⟩ := (HA.out.below HG.out).at (by omega)
      obtain ⟨b2, off2, rfl, hb2, hc2⟩ := (HB.out.below HG.out).at (by omega)
      obtain ⟨x0, x1, x2, x3⟩ := arc_cells (hc i hlt)
      obtain ⟨y0, y1, y2, y3⟩ := arc_cells (hc2 i hlt)
      obtain ⟨y, hy⟩ : ∃ y, y = A[i] := ⟨_, rfl⟩
      rw [← hy] at y0 y1 y2 y3
      clear hc hc2
      generalize A[i] = x at *
      obtain ⟨xf, xt, xw, xk⟩ := x
      obtain ⟨yf, yt, yw, yk⟩ := y
      injection hy with h1 h2 h3 h4
      have q1 : (xf == yf) = true := by simp [h1]
      have q2 : (xt == yt) = true := by simp [h2]
      have q3 : (xw == yw) = true := by simp [h3]
      have q4 : (xk == yk) = true := by simp [h4]
      have i0 : (0 : Int) ≤ (i : Int) := by omega
      have i1 : (i : Int) < (A.length : Int) := by omega
      simp only at x0 x1 x2 x3 y0 y1 y2 y3
      clear h1 h2 h3 h4
      go_upto_region 6 with (fail)
      go_quiet (fail)
      go_wp2_with fail
      go_roundw
      case rel => exact ⟨i + 1, hlt, by go_num, Lib.hid (below_drewN HG.out _)⟩
      case measure => simp [intOf]; omega
    · have i1 : ¬ (i : Int) < (A.length : Int) := by omega
      go_wp2_with fail
      go_ret
      exact ⟨rfl, HG.out⟩
/-! ### the best schedules of the examples -/
/-- A schedule and an error, as values that can be read. -/
def SchE (w : World) (s : Sch) (err : Int) (e : Ending) (w' : World) : Prop := ∃ oa sa qa oc sc qc, e = .returned (.tuple #[schV s oa sa qa oc sc qc, .int .i64 err]) ∧ IntsA w' oa oc s.o ∧ IntsA w' sa sc s.s ∧ IntsA w' qa qc s.q ∧ Below w.heap.size w w'
theorem bestT_any (a : Option Addr) (k : Nat) (w : World) (h : ChA w a k exT.chs) : Calls Try.prog 22 #[toolV exT a k] w (SchE w (provedS exT 40 [0, 2, 1]) 0) :=
  (cBest_any exT a k w h).mono fun e w' ⟨f, s, oa, sa, qa, oc, sc, qc, he, h1, h2, h3, hb, h4, h5⟩ => by
    cases f with
    | false => exact absurd (h4 rfl).1 ex_some
    | true =>
      obtain ⟨p, o, h6, rfl⟩ := h5 rfl
      obtain ⟨rfl, rfl⟩ := ex_best h6
      exact ⟨oa, sa, qa, oc, sc, qc, he, h1, h2, h3, hb⟩
theorem bestTwo_any (a : Option Addr) (k : Nat) (w : World) (h : ChA w a k exTwo.chs) : Calls Try.prog 22 #[toolV exTwo a k] w (SchE w (provedS exTwo 32 [0, 1, 2]) 0) :=
  (cBest_any exTwo a k w h).mono fun e w' ⟨f, s, oa, sa, qa, oc, sc, qc, he, h1, h2, h3, hb, h4, h5⟩ => by
    cases f with
    | false => exact absurd (h4 rfl).1 ex_some2
    | true =>
      obtain ⟨p, o, h6, rfl⟩ := h5 rfl
      obtain ⟨rfl, rfl⟩ := ex_best2 h6
      exact ⟨oa, sa, qa, oc, sc, qc, he, h1, h2, h3, hb⟩
theorem bestShort_any (a : Option Addr) (k : Nat) (w : World) (h : ChA w a k exShort.chs) : Calls Try.prog 22 #[toolV exShort a k] w (SchE w ⟨0, [], [], []⟩ 130) :=
  (cBest_any exShort a k w h).mono fun e w' ⟨f, s, oa, sa, qa, oc, sc, qc, he, h1, h2, h3, hb, h4, h5⟩ => by
    cases f with
    | true =>
      obtain ⟨p, o, h6, rfl⟩ := h5 rfl
      exact absurd h6 (ex_short p o)
    | false =>
      obtain ⟨-, rfl⟩ := h4 rfl
      exact ⟨oa, sa, qa, oc, sc, qc, he, h1, h2, h3, hb⟩
abbrev chObj2 (a b c d : Int) : Obj := .cells #[.int .i64 a, .int .i64 b, .int .i64 c, .int .i64 d] 60
theorem lit_ch2 (w : World) (a b c d : Int) : ChA (w.alloc (chObj2 a b c d)) (some ⟨w.heap.size, 0, none⟩) 2 [⟨a, b⟩, ⟨c, d⟩] := by
  have h := heap_alloc_new w (chObj2 a b c d)
  refine ⟨Nat.le_refl _, by decide, fun i hi => ⟨w.heap.size, 0, rfl, by simp, ?_⟩⟩
  have hi' : i < 2 := hi
  intro j v hv
  have hj : j < 2 := (List.getElem?_eq_some_iff.1 hv).1
  obtain rfl | rfl : i = 0 ∨ i = 1 := by omega
  · obtain rfl | rfl : j = 0 ∨ j = 1 := by omega
    all_goals exact box_cell h _ _ hv
  · obtain rfl | rfl : j = 0 ∨ j = 1 := by omega
    all_goals exact box_cell h _ _ hv
theorem lit_intL (w : World) (L : List Int) (hl : L.length ≤ 1000) : IntsA (w.alloc (.cells (L.map (Value.int .i64)).toArray 3)) (some ⟨w.heap.size, 0, none⟩) L.length L :=
  IntRow.ints (show IntRow _ w.heap.size L from heap_alloc_new _ _) hl
end Go.Proofs.Ytiolmcnngpaapaa
