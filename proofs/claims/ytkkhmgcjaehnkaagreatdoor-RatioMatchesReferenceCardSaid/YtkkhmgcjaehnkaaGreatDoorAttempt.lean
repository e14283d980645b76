/-
  attempt: what its argument returns, with OK; a zero fraction and ErrRatio where that raises the package's error.
-/
import Derived.Test.YtkkhmgcjaehnkaaGreatDoorCatch
namespace Go.Proofs.YtkkhmgcjaehnkaaGreatDoor
open Go.RowKit

/-- What attempt hands back. -/
def ratRes (r : Option (Int × Int)) : Value :=
  match r with
  | some (p, q) => .tuple #[ratV p q, .int .i64 0]
  | none => .tuple #[ratV 0 0, .int .i64 30]

theorem bcell {W w1 : World} (hb : Below W.heap.size W w1) : (∀ b o, b < W.heap.size → w1.cell? ⟨b, o, none⟩ = W.cell? ⟨b, o, none⟩) ∧ (∀ b o, b < W.heap.size → w1.frozen? ⟨b, o, none⟩ = W.frozen? ⟨b, o, none⟩) :=
  ⟨fun b o h => hb.cell (p := ⟨b, o, none⟩) h, fun b o h => hb.frozen (p := ⟨b, o, none⟩) h⟩

set_option maxRecDepth 100000 in
set_option maxHeartbeats 400000 in
theorem attempt_yes (K : FuncId) (caps : Array Value) (p q : Int) (w : World)
    (hE : ∀ W, (callFunc K caps).run Tryz.prog W = .ok (.enter K caps) W)
    (hC : ∀ W, Below w.heap.size w W → Calls Tryz.prog K caps W fun e W' => e = .returned (ratV p q) ∧ Below W.heap.size W W') :
    Calls Tryz.prog 28 #[.func (.func K) #[] caps] w fun e w' => e = .returned (.tuple #[ratV p q, .int .i64 0]) ∧ Below w.heap.size w w' := by
  have hmf : ∀ (fn : Fn) (first cap : Array Value) (w : World), (Instr.makeFunc fn first cap).run Tryz.prog w = .ok (.func fn first cap) w := fun _ _ _ _ => rfl
  have HC := Lib.hid hC; clear hC
  go_enter_defers Tryz.func28, Tryz.ntmps28
  go_wp2_with fail
  refine (HC.out _ (((below_new _ _).alloc (by simp) _))).mono ?_
  rintro e w1 ⟨rfl, hb1⟩
  obtain ⟨hc, hf⟩ := bcell hb1
  have c0 := hc w.heap.size 0 (by simp; omega)
  have c1 := hc w.heap.size 1 (by simp; omega)
  have c2 := hc (w.heap.size + 1) 0 (by simp)
  have f0 := hf w.heap.size 0 (by simp; omega)
  have f1 := hf w.heap.size 1 (by simp; omega)
  have f2 := hf (w.heap.size + 1) 0 (by simp)
  simp [go_sem] at c0 c1 c2 f0 f1 f2
  clear hc hf
  go_wp2_with fail
  refine leaves_cons (f := 49) (args := #[.pointer (some ⟨w.heap.size + 1, 0, none⟩)]) (by simp) (by simp [go_sem]) ?_
  refine (catch_idle _ _).mono ?_
  rintro e u' w'' ⟨rfl, rfl, rfl⟩
  have hb : Below w.heap.size w w1 := (((below_new w _).alloc (by simp) _)).trans (hb1.mono (by simp; omega))
  have hB : Below w.heap.size w (((w1.setCell ⟨w.heap.size, 0, none⟩ (.int .i64 p)).setCell ⟨w.heap.size, 1, none⟩ (.int .i64 q)).setCell ⟨w.heap.size + 1, 0, none⟩ (.int .i64 0)) :=
    ((hb.setCell (by simp) _).setCell (by simp) _).setCell (by simp) _
  simp [Leaves, settle, results, Tryz.results28, go_sem, c0, c1, c2, hB]

set_option maxRecDepth 100000 in
set_option maxHeartbeats 400000 in
theorem attempt_no (K : FuncId) (caps : Array Value) (a : Addr) (w : World) (hN : NoneAt a w)
    (hE : ∀ W, (callFunc K caps).run Tryz.prog W = .ok (.enter K caps) W)
    (hC : ∀ W, Below w.heap.size w W → Calls Tryz.prog K caps W fun e W' => e = raised a ∧ Below W.heap.size W W') :
    Calls Tryz.prog 28 #[.func (.func K) #[] caps] w fun e w' => e = .returned (.tuple #[ratV 0 0, .int .i64 30]) ∧ Below w.heap.size w w' := by
  have hmf : ∀ (fn : Fn) (first cap : Array Value) (w : World), (Instr.makeFunc fn first cap).run Tryz.prog w = .ok (.func fn first cap) w := fun _ _ _ _ => rfl
  have HC := Lib.hid hC; clear hC
  have HN := Lib.hid hN; clear hN
  go_enter_defers Tryz.func28, Tryz.ntmps28
  go_wp2_with fail
  refine (HC.out _ (((below_new _ _).alloc (by simp) _))).mono ?_
  rintro e w1 ⟨rfl, hb1⟩
  obtain ⟨hc, hf⟩ := bcell hb1
  have c0 := hc w.heap.size 0 (by simp; omega)
  have c1 := hc w.heap.size 1 (by simp; omega)
  have c2 := hc (w.heap.size + 1) 0 (by simp)
  have f0 := hf w.heap.size 0 (by simp; omega)
  have f1 := hf w.heap.size 1 (by simp; omega)
  have f2 := hf (w.heap.size + 1) 0 (by simp)
  simp [go_sem] at c0 c1 c2 f0 f1 f2
  clear hc hf
  have hb : Below w.heap.size w w1 := (((below_new w _).alloc (by simp) _)).trans (hb1.mono (by simp; omega))
  go_wp2_with fail
  refine leaves_cons (f := 49) (args := #[.pointer (some ⟨w.heap.size + 1, 0, none⟩)]) (by simp) (by simp [go_sem]) ?_
  refine (catch_panicking _ a 0 [] _ c2 f2 (HN.out.below hb) (by have := HN.out.1; show _ + 1 ≠ _; omega)).mono ?_
  rintro e u' w'' ⟨rfl, rfl, rfl⟩
  have hB : Below w.heap.size w ((w1.setCell ⟨w.heap.size + 1, 0, none⟩ (.int .i64 2)).setCell ⟨w.heap.size + 1, 0, none⟩ (.int .i64 30)) :=
    (hb.setCell (by simp) _).setCell (by simp) _
  simp [Leaves, settle, results, Tryz.results28, go_sem, c0, c1, c2, hB]
end Go.Proofs.YtkkhmgcjaehnkaaGreatDoor
