/-
  The statements' common examples.
-/
import Derived.Test.YtiolmcnngpaapaaSp
import Derived.Test.YtiolmcnngpaapaaPq
import Derived.ArgAppend
import Derived.Deep.AppendLies
namespace Go.Proofs.Ytiolmcnngpaapaa
open Go.RowKit Go.Shelf Cy

abbrev o2 : Obj := .cells #[.int .i64 0, .int .i64 1, .int .i64 30, .int .i64 0, .int .i64 1, .int .i64 0, .int .i64 20, .int .i64 1] 71
abbrev iObj (x y : Int) : Obj := .cells #[.int .i64 x, .int .i64 y] 3
theorem lit_arcs (w : World) : ArcA (w.alloc o2) (some ⟨w.heap.size, 0, none⟩) 2 l2 := by
  have h := heap_alloc_new w o2
  refine ⟨Nat.le_refl _, by decide, fun i hi => ⟨w.heap.size, 0, rfl, by simp, ?_⟩⟩
  have hi' : i < 2 := hi
  intro j v hv
  have hj : j < 4 := (List.getElem?_eq_some_iff.1 hv).1
  obtain rfl | rfl : i = 0 ∨ i = 1 := by omega
  · obtain rfl | rfl | rfl | rfl : j = 0 ∨ j = 1 ∨ j = 2 ∨ j = 3 := by omega
    all_goals exact box_cell h _ _ hv
  · obtain rfl | rfl | rfl | rfl : j = 0 ∨ j = 1 ∨ j = 2 ∨ j = 3 := by omega
    all_goals exact box_cell h _ _ hv
theorem lit_ints (w : World) (x y : Int) : IntsA (w.alloc (iObj x y)) (some ⟨w.heap.size, 0, none⟩) 2 [x, y] := by
  have h := heap_alloc_new w (iObj x y)
  refine ⟨Nat.le_refl _, by decide, fun i hi => ⟨w.heap.size, 0, rfl, by simp, ?_⟩⟩
  have hi' : i < 2 := hi
  intro j v hv
  have hj : j < 1 := (List.getElem?_eq_some_iff.1 hv).1
  obtain rfl : j = 0 := by omega
  obtain rfl | rfl : i = 0 ∨ i = 1 := by omega
  all_goals exact box_cell h _ _ hv
/-- What Levels leaves, its lists as arguments. -/
def LvA (n p : Int) (L : List Arc) (w : World) (e : Ending) (w' : World) : Prop :=
  ∃ sa sc ca cc, e = .returned (.tuple #[.slice sa (lvS n p L).length sc, .slice ca (lvC n p L).length cc, .bool (lvB n p L)]) ∧ IntsA w' sa sc (lvS n p L) ∧ IntsA w' ca cc (natsI (lvC n p L)) ∧ Below w.heap.size w w'
theorem LvPost.args {n p : Int} {L : List Arc} {w w' : World} {e : Ending} (h : LvPost n p L w e w') : LvA n p L w e w' := by
  obtain ⟨vs, vc, rfl, h1, h2, h3⟩ := h
  obtain ⟨sa, sc, rfl, h4, -⟩ := RowO.arg int_len h1
  obtain ⟨ca, cc, rfl, h5, -⟩ := RowO.arg int_len h2
  exact ⟨sa, sc, ca, cc, by rw [natsI_len], h4, h5, h3⟩
theorem lv_any (n p : Int) (hn : Fits n) (L : List Arc) (a : Option Addr) (c : Nat) (w : World) (hA : ArcA w a c L) (hS4 : ∀ x, a = some x → x.block < w.heap.size) :
    Calls Try.prog 31 #[.int .i64 n, .slice a L.length c, .int .i64 p] w (LvA n p L w) := (Levels_any n p hn L a c w hA hS4).mono fun _ _ h => h.args
theorem same_lit (A : List Int) (x y : Int) (aa : Option Addr) (ac : Nat) (w : World) (h : IntsA w aa ac A) (hd : A = [x, y]) :
    Calls Try.prog 18 #[.slice aa 2 ac, .slice (some ⟨w.heap.size, 0, none⟩) 2 2] (w.alloc (iObj x y)) fun e w' => e = .returned (.bool true) ∧ Below w.heap.size w w' := by
  have hb := below_new w (iObj x y)
  have := sameInts_any A [x, y] aa (some ⟨w.heap.size, 0, none⟩) ac 2 _ (h.below hb) (lit_ints w x y)
  rw [decide_eq_true hd] at this
  rw [hd] at this
  exact this.mono fun _ _ h => ⟨h.1, below_step hb h.2⟩
theorem ver_lit (x y p : Int) (r : Bool) (a : Option Addr) (w : World) (h : ArcA w a 2 l2) (h4 : ∀ x, a = some x → x.block < w.heap.size) (hr : verB 2 p l2 [x, y] = r) :
    Calls Try.prog 32 #[.int .i64 2, .slice a 2 2, .int .i64 p, .slice (some ⟨w.heap.size, 0, none⟩) 2 2] (w.alloc (iObj x y)) fun e w' => e = .returned (.bool r) ∧ Below w.heap.size w w' := by
  have hb := below_new w (iObj x y)
  have := Verify_any 2 p (by unfold Fits; omega) l2 a 2 [x, y] (some ⟨w.heap.size, 0, none⟩) 2 _ (h.below hb) (lit_ints w x y) (fun z hz => Nat.lt_of_lt_of_le (h4 z hz) hb.size)
  rw [hr] at this
  exact this.mono fun _ _ h => ⟨h.1, below_step hb h.2⟩
theorem ref_lit (x y p : Int) (hp : Fits p) (r : Bool) (a : Option Addr) (w : World) (h : ArcA w a 2 l2) (hr : refB 2 p l2 [x, y] = r) :
    Calls Try.prog 48 #[.int .i64 2, .slice a 2 2, .int .i64 p, .slice (some ⟨w.heap.size, 0, none⟩) 2 2] (w.alloc (iObj x y)) fun e w' => e = .returned (.bool r) ∧ Below w.heap.size w w' := by
  have hb := below_new w (iObj x y)
  have := Refutes_any 2 p (by unfold Fits; omega) hp l2 a 2 [x, y] (some ⟨w.heap.size, 0, none⟩) 2 _ (h.below hb) (lit_ints w x y)
  rw [hr] at this
  exact this.mono fun _ _ h => ⟨h.1, below_step hb h.2⟩
end Go.Proofs.Ytiolmcnngpaapaa

