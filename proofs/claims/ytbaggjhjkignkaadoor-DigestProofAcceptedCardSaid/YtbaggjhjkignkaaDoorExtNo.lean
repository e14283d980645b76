/-
  The package's Extension for numbers outside the list and for none.
-/
import Derived.Test.YtbaggjhjkignkaaDoorEdge1
namespace Go.Proofs.YtbaggjhjkignkaaDoor
open Go.RowKit Go.Shelf Tree

attribute [local go_sem] Oper.semAt_some

set_option maxRecDepth 100000 in
set_option maxHeartbeats 1000000 in
theorem ext_no (L : List ByteArray) (m : Int) (a : Option Addr) (c : Nat) (w : World) (hi : m < 0 ∨ (L.length : Int) < m) :
    Calls Tryd.prog 18 #[.slice a L.length c, .int .i64 m] w (ProofEnd [] 2 w) := by
  have he : ProofEnd [] 2 w (.returned (.tuple #[.slice none 0 0, .int .i64 2])) (w.alloc (.cells #[.slice a L.length c] 26)) :=
    ⟨⟨_, rfl, World.ownsRow_nil _ _ _ _⟩, (Below.refl _ _).alloc (Nat.le_refl _) _⟩
  have HE := Lib.hid he
  clear he
  by_cases h0 : m < 0
  · go_enter Tryd.func18, Tryd.ntmps18
    go_wp2_with fail
    go_ret2
    exact HE.out
  · have h1 : decide (m < 0) = false := by simp; omega
    have h2 : (L.length : Int) < m := by omega
    go_enter Tryd.func18, Tryd.ntmps18
    go_wp2_with fail
    go_ret2
    exact HE.out

set_option maxRecDepth 100000 in
set_option maxHeartbeats 1000000 in
theorem ext_zero (L : List ByteArray) (a : Option Addr) (c : Nat) (w : World) :
    Calls Tryd.prog 18 #[.slice a L.length c, .int .i64 (0 : Nat)] w (ProofEnd [] 0 w) := by
  have he : ProofEnd [] 0 w (.returned (.tuple #[.slice none 0 0, .int .i64 0])) (w.alloc (.cells #[.slice a L.length c] 26)) :=
    ⟨⟨_, rfl, World.ownsRow_nil _ _ _ _⟩, (Below.refl _ _).alloc (Nat.le_refl _) _⟩
  have HE := Lib.hid he
  clear he
  have h1 : decide (((0 : Nat) : Int) < 0) = false := by simp
  have h2 : decide ((L.length : Int) < ((0 : Nat) : Int)) = false := by simp
  go_enter Tryd.func18, Tryd.ntmps18
  go_wp2_with fail
  go_ret2
  exact HE.out
end Go.Proofs.YtbaggjhjkignkaaDoor

