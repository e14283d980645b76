/-
  The deferred closure of attempt: behind a call that returned it does nothing; behind one that raised the package's error it ends the panic and writes ErrRatio.
-/
import Derived.Test.YtkkhmgcjaehnkaaGreatDoorIs
import Derived.Tactics2
import Derived.Defers
import Derived.Recover
import Derived.Laws.Pointers
namespace Go.Proofs.YtkkhmgcjaehnkaaGreatDoor
open Go.RowKit

theorem catch_idle (p : Addr) (w : World) :
    CallsD Tryz.prog 49 #[.pointer (some p)] .returning w fun e u' w' => e = .returned (.tuple #[]) ∧ u' = .returning ∧ w' = w := by
  refine callsD_of_wpS Tryz.func49 rfl fun c₀ cs hu => ?_
  apply wpS_seq
  apply wpS_region
  simp [wpOpsS, go_sem, recoverD, hu, Tryz.ntmps49, Exit.thenS]
  refine wpS_of_wp ?_
  change Code.wp _ _ _ { tmps := #[.pointer (some p), .nilIface, undef, undef, .nilIface, undef, undef, undef, undef, undef, undef, undef, undef, undef, undef, undef, undef, undef], defers := [] } _
  go_wp2_with fail
  exact ⟨rfl, .returning, by cases c₀; simp_all, _, results_none rfl _ _ _, rfl, rfl, rfl⟩

theorem frame18 (p v : Value) : (#[p] ++ ((Array.replicate 17 undef).setIfInBounds 3 v).setIfInBounds 0 v : Array Value) = #[p, v, undef, undef, v, undef, undef, undef, undef, undef, undef, undef, undef, undef, undef, undef, undef, undef] := by
  simp [Array.replicate_succ]

theorem hasError (v : Value) (xT : TypeId) (w : World) : (Instr.typeAssert (.iface 111 v) xT 50 true).run Tryz.prog w = .ok (.tuple #[.iface 111 v, .bool true]) w := run_typeAssert_hasB Tryz.underlying50 (by kernel_rfl) v xT w
theorem catch_panicking (p a : Addr) (x : Int) (older : List PanicEntry) (w : World) (hc : w.cell? p = some (.int .i64 x)) (hz : w.frozen? p = false) (hN : NoneAt a w) (hp : p.block ≠ 0) :
    CallsD Tryz.prog 49 #[.pointer (some p)] (.panicking ({ v := noneV a, recovered := false } :: older)) w fun e u' w' =>
      e = .returned (.tuple #[]) ∧ u' = .panicking ({ v := noneV a, recovered := true } :: older) ∧ w' = (w.setCell p (.int .i64 2)).setCell p (.int .i64 30) := by
  refine callsD_of_wpS Tryz.func49 rfl fun c₀ cs hu => ?_
  apply wpS_seq
  apply wpS_region
  simp [wpOpsS, go_sem, recoverD, hu, Tryz.ntmps49, Exit.thenS]
  refine wpS_of_wp ?_
  rw [frame18]
  have hE := hasError
  have c1 : (w.setCell p (.int .i64 2)).cell? ⟨0, 0, none⟩ = some (noneV a) := (World.cell?_setCell_other _ _ _ _ (fun h => hp (by rw [h]))).trans hN.2
  clear hN hp
  go_wp2_with fail
  refine (is_same a _).mono ?_; rintro e w' ⟨rfl, rfl⟩
  go_wp2_with fail
  exact ⟨rfl, _, rfl, _, results_none rfl _ _ _, rfl, rfl, rfl⟩
end Go.Proofs.YtkkhmgcjaehnkaaGreatDoor
