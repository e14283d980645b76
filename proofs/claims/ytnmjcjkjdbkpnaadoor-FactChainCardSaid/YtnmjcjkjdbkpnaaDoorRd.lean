/-
  The reader of an encoding: require, nextNumber, nextString, attempt.
-/
import Derived.Test.YtnmjcjkjdbkpnaaDoorPv
import Derived.Test.YtnmjcjkjdbkpnaaDoorWaInt
import Derived.Test.YtnmjcjkjdbkpnaaDoorWaString
import Derived.Tactics2
import Derived.Defers
import Derived.Recover
import Derived.Laws.Pointers
namespace Go.Proofs.YtnmjcjkjdbkpnaaDoor
open Go.RowKit Go.Shelf Fc
abbrev errV (n : Int) : Value := .iface 26 (.int .i64 n)
/-- How the reader stops: by a panic with the error. -/
abbrev stopped (n : Int) : Ending := .panicked [{ v := errV n, recovered := false }]
attribute [local go_sem] Oper.semAt_some
set_option maxRecDepth 100000 in
theorem require_yes (n : Int) (w : World) : Calls Tryd.prog 55 #[.bool true, .int .i64 n] w fun e w' => e = .returned (.tuple #[]) ∧ w' = w := by
  go_enter Tryd.func55, Tryd.ntmps55
  go_wp2_with fail
  first
    | exact ⟨.tuple #[], by simp [results, go_sem], rfl, rfl, rfl⟩
    | (go_end0; exact ⟨rfl, rfl⟩)
set_option maxRecDepth 100000 in
theorem require_no (n : Int) (w : World) : Calls Tryd.prog 55 #[.bool false, .int .i64 n] w fun e w' => e = stopped n ∧ w' = w := by
  go_enter Tryd.func55, Tryd.ntmps55
  go_wp2_with fail
  exact ⟨rfl, rfl, rfl⟩
set_option maxRecDepth 100000 in
/-- number, where the text has one. -/
theorem number_yes (b : Nat) (s : ByteArray) (at' n nx : Int) (w : World) (h0 : w.cell? ⟨b, 0, none⟩ = some (.string s)) (h1 : w.cell? ⟨b, 1, none⟩ = some (.int .i64 at')) (z1 : w.frozen? ⟨b, 1, none⟩ = false) (hs : s.size ≤ maxLen) (hi : Wa.Enc.intV s.data.toList at' = (n, nx, 0)) :
    Calls Tryd.prog 54 #[.pointer (some ⟨b, 0, none⟩)] w fun e w' => e = .returned (.int .i64 n) ∧ w' = w.drew.setCell ⟨b, 1, none⟩ (.int .i64 nx) := by
  have HI := Lib.hid (fun v => Wa.int_any s at' v hs)
  unfold Wa.IntEnd at HI
  rw [hi] at HI
  clear hi hs
  go_enter Tryd.func54, Tryd.ntmps54
  go_upto_region 1 with (fail)
  go_region_held3 (fun v => v.cell? ⟨b, 0, none⟩ = some (.string s) ∧ v.cell? ⟨b, 1, none⟩ = some (.int .i64 at')) (first | exact ⟨h0, h1⟩ | go_keep) (first | (go_at_call 62; with_reducible refine (HI.out _).mono ?_; rintro e v ⟨rfl, rfl⟩))
  have hc1 : w.drew.cell? ⟨b, 1, none⟩ = some (.int .i64 at') := h1
  have hz1 : w.drew.frozen? ⟨b, 1, none⟩ = false := z1
  go_wp2_with fail
  refine (require_yes 10 _).mono ?_; rintro e v ⟨rfl, rfl⟩
  go_wp2_with fail
  go_ret
  exact ⟨rfl, rfl⟩
set_option maxRecDepth 100000 in
/-- number, where the text has none. -/
theorem number_no (b : Nat) (s : ByteArray) (at' x nx er : Int) (w : World) (h0 : w.cell? ⟨b, 0, none⟩ = some (.string s)) (h1 : w.cell? ⟨b, 1, none⟩ = some (.int .i64 at')) (hs : s.size ≤ maxLen) (hi : Wa.Enc.intV s.data.toList at' = (x, nx, er)) (he : er ≠ 0) :
    Calls Tryd.prog 54 #[.pointer (some ⟨b, 0, none⟩)] w fun e w' => e = stopped 10 ∧ w' = w.drew := by
  have HI := Lib.hid (fun v => Wa.int_any s at' v hs)
  unfold Wa.IntEnd at HI
  rw [hi] at HI
  have he2 : (er == 0) = false := by simpa using he
  clear hi hs
  go_enter Tryd.func54, Tryd.ntmps54
  go_upto_region 1 with (fail)
  go_region_held3 (fun v => v.cell? ⟨b, 0, none⟩ = some (.string s) ∧ v.cell? ⟨b, 1, none⟩ = some (.int .i64 at')) (first | exact ⟨h0, h1⟩ | go_keep) (first | (go_at_call 62; with_reducible refine (HI.out _).mono ?_; rintro e v ⟨rfl, rfl⟩))
  go_wp2_with fail
  refine (require_no 10 _).mono ?_; rintro e v ⟨rfl, rfl⟩
  go_wp2_with fail
  exact ⟨rfl, rfl, rfl⟩
set_option maxRecDepth 100000 in
/-- nextString, where the text has a string. -/
theorem nstr_yes (b : Nat) (s : ByteArray) (at' nx : Int) (t : List UInt8) (w : World) (h0 : w.cell? ⟨b, 0, none⟩ = some (.string s)) (h1 : w.cell? ⟨b, 1, none⟩ = some (.int .i64 at')) (z1 : w.frozen? ⟨b, 1, none⟩ = false) (hs : s.size ≤ maxLen) (hi : Wa.Enc.strV s.data.toList at' = (t, nx, 0)) :
    Calls Tryd.prog 56 #[.pointer (some ⟨b, 0, none⟩)] w fun e w' => e = .returned (.string (bs t)) ∧ ∃ V, Below w.heap.size w V ∧ w' = V.setCell ⟨b, 1, none⟩ (.int .i64 nx) := by
  have hb := World.block_lt_of_cell? w _ h0
  have HI := Lib.hid (fun v => Wa.str_any s at' v hs)
  unfold Wa.StrEnd Wa.bstr at HI
  rw [hi] at HI
  clear hi hs
  go_enter Tryd.func56, Tryd.ntmps56
  go_upto_region 1 with (fail)
  go_region_held3 (fun v => v.cell? ⟨b, 0, none⟩ = some (.string s) ∧ v.cell? ⟨b, 1, none⟩ = some (.int .i64 at') ∧ Below w.heap.size w v) (first | exact ⟨h0, h1, (Below.refl _ _).drew⟩ | exact ⟨cell_below (w := w.drew) hbv h0, cell_below (w := w.drew) hbv h1, (Below.refl _ _).drew.trans hbv⟩ | go_keep) (first | (go_at_call 63; with_reducible refine (HI.out _).mono ?_; rintro e v ⟨rfl, hbv⟩))
  have hc1 : v.cell? ⟨b, 1, none⟩ = some (.int .i64 at') := cell_below (w := w.drew) hbv h1
  have hz1 : v.frozen? ⟨b, 1, none⟩ = false := (hbv.frozen (p := ⟨b, 1, none⟩) hb).trans z1
  have HB := Lib.hid (show Below w.heap.size w v from (Below.refl _ _).drew.trans hbv)
  clear hbv
  go_wp2_with fail
  refine (require_yes 10 _).mono ?_; rintro e v2 ⟨rfl, rfl⟩
  go_wp2_with fail
  go_ret
  exact ⟨rfl, _, HB.out, rfl⟩
set_option maxRecDepth 100000 in
/-- nextString, where the text has none. -/
theorem nstr_no (b : Nat) (s : ByteArray) (at' nx er : Int) (t : List UInt8) (w : World) (h0 : w.cell? ⟨b, 0, none⟩ = some (.string s)) (h1 : w.cell? ⟨b, 1, none⟩ = some (.int .i64 at')) (hs : s.size ≤ maxLen) (hi : Wa.Enc.strV s.data.toList at' = (t, nx, er)) (he : er ≠ 0) :
    Calls Tryd.prog 56 #[.pointer (some ⟨b, 0, none⟩)] w fun e w' => e = stopped 10 ∧ Below w.heap.size w w' := by
  have HI := Lib.hid (fun v => Wa.str_any s at' v hs)
  unfold Wa.StrEnd Wa.bstr at HI
  rw [hi] at HI
  have he2 : (er == 0) = false := by simpa using he
  clear hi hs
  go_enter Tryd.func56, Tryd.ntmps56
  go_upto_region 1 with (fail)
  go_region_held3 (fun v => v.cell? ⟨b, 0, none⟩ = some (.string s) ∧ v.cell? ⟨b, 1, none⟩ = some (.int .i64 at') ∧ Below w.heap.size w v) (first | exact ⟨h0, h1, (Below.refl _ _).drew⟩ | exact ⟨cell_below (w := w.drew) hbv h0, cell_below (w := w.drew) hbv h1, (Below.refl _ _).drew.trans hbv⟩ | go_keep) (first | (go_at_call 63; with_reducible refine (HI.out _).mono ?_; rintro e v ⟨rfl, hbv⟩))
  have HB := Lib.hid (show Below w.heap.size w v from (Below.refl _ _).drew.trans hbv)
  clear hbv
  go_wp2_with fail
  refine (require_no 10 _).mono ?_; rintro e v2 ⟨rfl, rfl⟩
  go_wp2_with fail
  exact ⟨rfl, rfl, HB.out⟩

set_option maxRecDepth 100000 in
theorem catch_idle (p : Addr) (w : World) :
    CallsD Tryd.prog 53 #[.pointer (some p)] .returning w fun e u' w' => e = .returned (.tuple #[]) ∧ u' = .returning ∧ w' = w := by
  refine callsD_of_wpS Tryd.func53 rfl fun c₀ cs hu => ?_
  apply wpS_seq
  apply wpS_region
  simp [wpOpsS, go_sem, recoverD, hu, Tryd.ntmps53, Exit.thenS]
  refine wpS_of_wp ?_
  change Code.wp _ _ _ { tmps := #[.pointer (some p), undef, undef, undef, .nilIface, undef, undef, undef, undef, undef], defers := [] } _
  go_wp2_with fail
  first
    | exact ⟨rfl, .returning, by cases c₀; simp_all, _, results_none rfl _ _ _, rfl, rfl, rfl⟩
theorem frame9 (p v : Value) : (#[p] ++ ((Array.replicate 9 undef).setIfInBounds 3 v) : Array Value) = #[p, undef, undef, undef, v, undef, undef, undef, undef, undef] := by
  simp [Array.replicate_succ]
theorem isErrno (v : Value) (xT : TypeId) (w : World) : (Instr.typeAssert (.iface 26 v) xT 26 true).run Tryd.prog w = .ok (.tuple #[v, .bool true]) w := by
  simp [Instr.typeAssert, go_sem]
set_option maxRecDepth 100000 in
theorem catch_panicking (p : Addr) (x n : Int) (older : List PanicEntry) (w : World) (hc : w.cell? p = some (.int .i64 x)) (hz : w.frozen? p = false) :
    CallsD Tryd.prog 53 #[.pointer (some p)] (.panicking ({ v := errV n, recovered := false } :: older)) w fun e u' w' =>
      e = .returned (.tuple #[]) ∧ u' = .panicking ({ v := errV n, recovered := true } :: older) ∧ w' = w.setCell p (.int .i64 n) := by
  refine callsD_of_wpS Tryd.func53 rfl fun c₀ cs hu => ?_
  apply wpS_seq
  apply wpS_region
  simp [wpOpsS, go_sem, recoverD, hu, Tryd.ntmps53, Exit.thenS]
  refine wpS_of_wp ?_
  have hE := isErrno
  first
    | rw [frame9]
  go_wp2_with fail
  first
    | exact ⟨rfl, _, rfl, _, results_none rfl _ _ _, rfl, rfl, rfl⟩
/-- What a reading leaves as it was: all old memory but the reader's box. -/
def KeptBut (b : Nat) (W W' : World) : Prop := W.heap.size ≤ W'.heap.size ∧ ∀ k, k < W.heap.size → k ≠ b → W'.heap[k]? = W.heap[k]?
set_option maxRecDepth 100000 in
set_option maxHeartbeats 400000 in
theorem attempt_yes (K : FuncId) (b : Nat) (w : World) (R : World → Prop) (hb : b < w.heap.size)
    (hE : ∀ W, (callFunc K #[.pointer (some ⟨b, 0, none⟩)]).run Tryd.prog W = .ok (.enter K #[.pointer (some ⟨b, 0, none⟩)]) W)
    (hC : ∀ W, Below w.heap.size w W → w.heap.size < W.heap.size → Calls Tryd.prog K #[.pointer (some ⟨b, 0, none⟩)] W fun e W' => e = .returned (.tuple #[]) ∧ KeptBut b W W' ∧ R W') :
    Calls Tryd.prog 40 #[.func (.func K) #[.pointer (some ⟨b, 0, none⟩)] #[]] w fun e w' => e = .returned (.int .i64 0) ∧ ∃ W, R W ∧ w' = W.setCell ⟨w.heap.size, 0, none⟩ (.int .i64 0) := by
  have hmf : ∀ (fn : Fn) (first cap : Array Value) (w : World), (Instr.makeFunc fn first cap).run Tryd.prog w = .ok (.func fn first cap) w := fun _ _ _ _ => rfl
  have HC := Lib.hid hC; clear hC
  go_enter_defers Tryd.func40, Tryd.ntmps40
  go_wp2_with fail
  refine (HC.out _ (below_new _ _) (by simp)).mono ?_
  rintro e w1 ⟨rfl, hk, hR⟩
  have hn := (hk.2 w.heap.size (by simp) (by omega)).trans (heap_alloc_new w _)
  have c0 := box_cell hn 0 (.int .i64 0) rfl
  have f0 := box_fz hn 0
  have hl := lt_of_block hn
  have HR := Lib.hid hR
  clear hk hR hn
  go_wp2_with fail
  refine leaves_cons (f := 53) (args := #[.pointer (some ⟨w.heap.size, 0, none⟩)]) (by simp) (by simp [go_sem]) ?_
  refine (catch_idle _ _).mono ?_
  rintro e u' w'' ⟨rfl, rfl, rfl⟩
  have F := Lib.hid (show ∃ W, R W ∧ w1.setCell ⟨w.heap.size, 0, none⟩ (.int .i64 0) = W.setCell ⟨w.heap.size, 0, none⟩ (.int .i64 0) from ⟨w1, HR.out, rfl⟩)
  simp only [settle]
  first
    | exact ⟨.int .i64 0, by simp [results, Tryd.results40, go_sem, c0], rfl, F.out⟩
    | (simp [Leaves, settle, results, Tryd.results40, go_sem, c0]; exact F.out)
set_option maxRecDepth 100000 in
set_option maxHeartbeats 400000 in
theorem attempt_no (K : FuncId) (b : Nat) (n : Int) (w : World) (R : World → Prop) (hb : b < w.heap.size)
    (hE : ∀ W, (callFunc K #[.pointer (some ⟨b, 0, none⟩)]).run Tryd.prog W = .ok (.enter K #[.pointer (some ⟨b, 0, none⟩)]) W)
    (hC : ∀ W, Below w.heap.size w W → w.heap.size < W.heap.size → Calls Tryd.prog K #[.pointer (some ⟨b, 0, none⟩)] W fun e W' => e = stopped n ∧ KeptBut b W W' ∧ R W') :
    Calls Tryd.prog 40 #[.func (.func K) #[.pointer (some ⟨b, 0, none⟩)] #[]] w fun e w' => e = .returned (.int .i64 n) ∧ ∃ W, R W ∧ w' = W.setCell ⟨w.heap.size, 0, none⟩ (.int .i64 n) := by
  have hmf : ∀ (fn : Fn) (first cap : Array Value) (w : World), (Instr.makeFunc fn first cap).run Tryd.prog w = .ok (.func fn first cap) w := fun _ _ _ _ => rfl
  have HC := Lib.hid hC; clear hC
  go_enter_defers Tryd.func40, Tryd.ntmps40
  go_wp2_with fail
  refine (HC.out _ (below_new _ _) (by simp)).mono ?_
  rintro e w1 ⟨rfl, hk, hR⟩
  have hn := (hk.2 w.heap.size (by simp) (by omega)).trans (heap_alloc_new w _)
  have c0 := box_cell hn 0 (.int .i64 0) rfl
  have f0 := box_fz hn 0
  have hl := lt_of_block hn
  have HR := Lib.hid hR
  clear hk hR hn
  go_wp2_with fail
  refine leaves_cons (f := 53) (args := #[.pointer (some ⟨w.heap.size, 0, none⟩)]) (by simp) (by simp [go_sem]) ?_
  refine (catch_panicking _ 0 n [] _ c0 f0).mono ?_
  rintro e u' w'' ⟨rfl, rfl, rfl⟩
  have F := Lib.hid (show ∃ W, R W ∧ w1.setCell ⟨w.heap.size, 0, none⟩ (.int .i64 n) = W.setCell ⟨w.heap.size, 0, none⟩ (.int .i64 n) from ⟨w1, HR.out, rfl⟩)
  simp only [settle]
  first
    | exact ⟨.int .i64 n, by simp [results, Tryd.results40, go_sem, c0], rfl, F.out⟩
    | (simp [Leaves, settle, results, Tryd.results40, go_sem, c0]; exact F.out)
end Go.Proofs.YtnmjcjkjdbkpnaaDoor
