/-
  exceptions: the map of a kind's spans; what is looked up in it.
-/
import Derived.Test.YtnmjcjkjdbkpnaaDoorVa
import Derived.Laws.EntriesVeiled
namespace Go.Proofs.YtnmjcjkjdbkpnaaDoor
open Go.RowKit Go.Shelf Fc Go.ChangeMaps Go.MapKept
attribute [local go_sem] Oper.semAt_some

theorem run_checkKey_int (k : TypeId) (hk : Tryd.prog.underlying k = some (.int .i64)) (c : Bool) (x : Int) (w : World) : (Instr.checkKey c 10000 k (.int .i64 x)).run Tryd.prog w = .ok () w := by
  show (Instr.checkKey c (9999 + 1) k (.int .i64 x)).run Tryd.prog w = _
  rw [Instr.checkKey]
  simp [run_underlying hk, Result.andThen]
theorem run_findKey_int (k : TypeId) (hk : Tryd.prog.underlying k = some (.int .i64)) (x : Int) (es : List MapEntry) (res : Option (Nat × Value)) (hf : Instr.findNow (.int .i64) (.int .i64 x) es 0 = some res) (w : World) : (Instr.findKey k (.int .i64 x) es).run Tryd.prog w = .ok res w := by
  simp [Instr.findKey, run_underlying hk, hf, Result.andThen]
abbrev spanV (s : Int × Int) : Value := .agg #[.int .i64 s.1, .int .i64 s.2]
theorem zeroSpan (w : World) : (zeroValue 75).run Tryd.prog w = .ok (.agg #[.int .i64 0, .int .i64 0]) w := by kernel_rfl
theorem run_lookup_yes (w : World) (t k e : TypeId) (b : Nat) (es : Array MapEntry) (clock : Nat) (x : Int) (i : Nat) (v : Value) (ht : Tryd.prog.underlying t = some (.map k e)) (hk : Tryd.prog.underlying k = some (.int .i64)) (hb : w.heap[b]? = some (.map es clock))
    (hf : Instr.findNow (.int .i64) (.int .i64 x) es.toList 0 = some (some (i, v))) : (Instr.lookup t (.map (some b)) (.int .i64 x) true).run Tryd.prog w = .ok (.tuple #[v, .bool true]) w := by
  simp [Instr.lookup, run_underlying ht, MapKept.run_getObj_map hb, run_checkKey_int k hk, run_findKey_int k hk x _ _ hf, Result.andThen]
theorem run_lookup_no (w : World) (t k : TypeId) (b : Nat) (es : Array MapEntry) (clock : Nat) (x : Int) (ht : Tryd.prog.underlying t = some (.map k 75)) (hk : Tryd.prog.underlying k = some (.int .i64)) (hb : w.heap[b]? = some (.map es clock))
    (hf : Instr.findNow (.int .i64) (.int .i64 x) es.toList 0 = some none) : (Instr.lookup t (.map (some b)) (.int .i64 x) true).run Tryd.prog w = .ok (.tuple #[.agg #[.int .i64 0, .int .i64 0], .bool false]) w := by
  simp [Instr.lookup, run_underlying ht, MapKept.run_getObj_map hb, run_checkKey_int k hk, run_findKey_int k hk x _ _ hf, Result.andThen]
theorem run_lookup_nil (w : World) (t k : TypeId) (x : Int) (ht : Tryd.prog.underlying t = some (.map k 75)) (hk : Tryd.prog.underlying k = some (.int .i64)) :
    (Instr.lookup t (.map none) (.int .i64 x) true).run Tryd.prog w = .ok (.tuple #[.agg #[.int .i64 0, .int .i64 0], .bool false]) w := by
  simp [Instr.lookup, run_underlying ht, run_checkKey_int k hk, run_findKey_int k hk x [] none rfl, Result.andThen]
theorem setBlock_size (w : World) (b : Nat) (o : Obj) : (setBlock w b o).heap.size = w.heap.size := by simp [setBlock]
theorem wpList_insert (w : World) {ops : Array Oper} {rest : List Oper} {o : Oper} {a : Act} {Q : Exit → Act → World → Prop}
    (hg : o.guard = none) (m x v : Operand) (t : TypeId) (hop : o.op = Op.insert t m x v)
    (k e : TypeId) (ht : Tryd.prog.underlying t = some (.map k e)) (hk : Tryd.prog.underlying k = some (.int .i64)) (b : Nat) (hm : a.eval m = .map (some b)) (es : Array MapEntry) (clock : Nat) (hb : w.heap[b]? = some (.map es clock))
    (kx : Int) (val : Value) (hx : a.eval x = .int .i64 kx) (hv : a.eval v = val) (hf : Instr.findNow (.int .i64) (.int .i64 kx) es.toList 0 = some none)
    (hK : ∀ w', w'.heap[b]? = some (.map (es.push ⟨.int .i64 kx, val, clock⟩) (clock + 1)) → w.grownBy w' (some b) → wpList Tryd.prog ops Q rest (a.put o.dst undef) w') :
    wpList Tryd.prog ops Q (o :: rest) a w := by
  refine wpList_plain hg fun K' hK' => ?_
  have hrun : (Instr.mapUpdate t (.map (some b)) (.int .i64 kx) val).run Tryd.prog w = .ok () (setBlock w b (.map (es.push ⟨.int .i64 kx, val, clock⟩) (clock + 1))) := by
    simp [Instr.mapUpdate, run_underlying ht, MapKept.run_getObj_map hb, run_checkKey_int k hk, run_findKey_int k hk kx _ _ hf, MapKept.run_setObj_map _ hb, Result.andThen, setBlock]
  have r1 := heap_setBlock_same hb (.map (es.push ⟨.int .i64 kx, val, clock⟩) (clock + 1))
  have r2 : w.grownBy (setBlock w b (.map (es.push ⟨.int .i64 kx, val, clock⟩) (clock + 1))) (some b) := ⟨rfl, rfl, rfl, by simp [setBlock], fun i _ hi => heap_setBlock_other hb _ (fun e => hi (by rw [e]))⟩
  unfold Oper.wp
  simp [execOp, hop, hm, hx, hv, hrun, Result.andThen]
  exact hK' _ _ (hK _ r1 r2)
theorem grown_trans {a b c : World} {row : Option Nat} (h : a.grownBy b row) (k : b.grownBy c row) : a.grownBy c row :=
  ⟨k.os.trans h.os, k.tape.trans h.tape, k.output.trans h.output, Nat.le_trans h.size k.size, fun i hi hr => (k.block i (Nat.lt_of_lt_of_le hi h.size) hr).trans (h.block i hi hr)⟩
/-- The map of a kind's exceptions. -/
def ExcAt (k : Int) (B : Nat) (mv : Value) (w : World) : Prop := (mv = .map none ∧ ∀ x, x < 14 → exceptS k x = none) ∨
  ∃ M es clock, mv = .map (some M) ∧ B ≤ M ∧ w.heap[M]? = some (.map es clock) ∧ ∀ x, x < 14 → (exceptS k x = none ∧ Instr.findNow (.int .i64) (.int .i64 (x : Int)) es.toList 0 = some none) ∨ ∃ s i, exceptS k x = some s ∧ Instr.findNow (.int .i64) (.int .i64 (x : Int)) es.toList 0 = some (some (i, spanV s))
/-- What a lookup gives. -/
theorem exc_look {k : Int} {B : Nat} {mv : Value} {w : World} (h : ExcAt k B mv w) {x : Nat} (hx : x < 14) :
    (Instr.lookup 89 mv (.int .i64 (x : Int)) true).run Tryd.prog w = .ok (match exceptS k x with | none => .tuple #[.agg #[.int .i64 0, .int .i64 0], .bool false] | some s => .tuple #[spanV s, .bool true]) w := by
  rcases h with ⟨rfl, h⟩ | ⟨M, es, clock, rfl, -, hM, h⟩
  · rw [h x hx]; exact run_lookup_nil w 89 84 _ Tryd.underlying89 Tryd.underlying84
  · rcases h x hx with ⟨he, hf⟩ | ⟨s, i, he, hf⟩
    · rw [he]; exact run_lookup_no w 89 84 M es clock _ Tryd.underlying89 Tryd.underlying84 hM hf
    · rw [he]; exact run_lookup_yes w 89 84 75 M es clock _ i _ Tryd.underlying89 Tryd.underlying84 hM hf
def ExcPost (k : Int) (w : World) (e : Ending) (w' : World) : Prop := ∃ mv, e = .returned mv ∧ ExcAt k w.heap.size mv w' ∧ Below w.heap.size w w'
theorem exc1 {x : Nat} (hx : x < 14) (c : Nat) : (exceptS 1 x = none ∧ Instr.findNow (.int .i64) (.int .i64 (x : Int)) [⟨.int .i64 12, spanV (-10000000, 10000000), c⟩] 0 = some none) ∨ ∃ s i, exceptS 1 x = some s ∧ Instr.findNow (.int .i64) (.int .i64 (x : Int)) [⟨.int .i64 12, spanV (-10000000, 10000000), c⟩] 0 = some (some (i, spanV s)) := by
  match x, hx with
  | 0, _ | 1, _ | 2, _ | 3, _ | 4, _ | 5, _ | 6, _ | 7, _ | 8, _ | 9, _ | 10, _ | 11, _ | 13, _ => exact .inl ⟨rfl, rfl⟩
  | 12, _ => exact .inr ⟨_, _, rfl, rfl⟩
abbrev ents7 (c1 c2 c3 c4 c5 c6 c7 : Nat) : List MapEntry := [⟨.int .i64 1, spanV (0, 1000000), c1⟩, ⟨.int .i64 3, spanV (0, 1000000), c2⟩, ⟨.int .i64 5, spanV (0, 60), c3⟩, ⟨.int .i64 6, spanV (0, 4), c4⟩, ⟨.int .i64 7, spanV (0, 40), c5⟩, ⟨.int .i64 8, spanV (0, 1000000), c6⟩, ⟨.int .i64 9, spanV (0, 1000000), c7⟩]
theorem exc7 {x : Nat} (hx : x < 14) (c1 c2 c3 c4 c5 c6 c7 : Nat) : (exceptS 7 x = none ∧ Instr.findNow (.int .i64) (.int .i64 (x : Int)) (ents7 c1 c2 c3 c4 c5 c6 c7) 0 = some none) ∨ ∃ s i, exceptS 7 x = some s ∧ Instr.findNow (.int .i64) (.int .i64 (x : Int)) (ents7 c1 c2 c3 c4 c5 c6 c7) 0 = some (some (i, spanV s)) := by
  match x, hx with
  | 0, _ | 2, _ | 4, _ | 10, _ | 11, _ | 12, _ | 13, _ => exact .inl ⟨rfl, rfl⟩
  | 1, _ | 3, _ | 5, _ | 6, _ | 7, _ | 8, _ | 9, _ => exact .inr ⟨_, _, rfl, rfl⟩
set_option maxRecDepth 100000 in
set_option maxHeartbeats 4000000 in
theorem exceptions_any (k : Int) (w : World) : Calls Tryd.prog 58 #[.int .i64 k] w (ExcPost k w) := by
  have hmm := @run_makeMap Tryd.prog
  have H0 := Lib.hid (heap_alloc_new w (.map #[] 0))
  have HB := Lib.hid (below_new w (.map #[] 0))
  have HS := Lib.hid (show w.heap.size < (w.alloc (.map #[] 0)).heap.size by simp)
  obtain rfl | rfl | ⟨h1, h7⟩ : k = 1 ∨ k = 7 ∨ (k ≠ 1 ∧ k ≠ 7) := by omega
  · go_enter Tryd.func58, Tryd.ntmps58
    go_wp2_with (refine wpList_insert _ rfl _ _ _ 89 rfl 84 75 Tryd.underlying89 Tryd.underlying84 w.heap.size rfl #[] 0 H0.out _ _ rfl rfl rfl ?_)
    intro w1 m1 g1
    have F := Lib.hid (show ExcPost 1 w (.returned (.map (some w.heap.size))) w1 from ⟨_, rfl, .inr ⟨w.heap.size, _, _, rfl, Nat.le_refl _, m1, fun x hx => exc1 hx _⟩, HB.out.grown g1 (Nat.le_of_lt HS.out) (fun k hk => by injection hk with hk; omega)⟩)
    clear m1 g1
    go_wp2_with fail
    go_ret
    exact F.out
  · go_enter Tryd.func58, Tryd.ntmps58
    go_wp2_with (refine wpList_insert _ rfl _ _ _ 89 rfl 84 75 Tryd.underlying89 Tryd.underlying84 w.heap.size rfl #[] 0 H0.out _ _ rfl rfl rfl ?_)
    intro w1 m1 g1
    have M1 := Lib.hid m1; clear m1
    go_wp2_with (refine wpList_insert _ rfl _ _ _ 89 rfl 84 75 Tryd.underlying89 Tryd.underlying84 w.heap.size rfl _ _ M1.out _ _ rfl rfl rfl ?_)
    intro w2 m2 g2
    have M2 := Lib.hid m2; clear m2
    go_wp2_with (refine wpList_insert _ rfl _ _ _ 89 rfl 84 75 Tryd.underlying89 Tryd.underlying84 w.heap.size rfl _ _ M2.out _ _ rfl rfl rfl ?_)
    intro w3 m3 g3
    have M3 := Lib.hid m3; clear m3
    go_wp2_with (refine wpList_insert _ rfl _ _ _ 89 rfl 84 75 Tryd.underlying89 Tryd.underlying84 w.heap.size rfl _ _ M3.out _ _ rfl rfl rfl ?_)
    intro w4 m4 g4
    have M4 := Lib.hid m4; clear m4
    go_wp2_with (refine wpList_insert _ rfl _ _ _ 89 rfl 84 75 Tryd.underlying89 Tryd.underlying84 w.heap.size rfl _ _ M4.out _ _ rfl rfl rfl ?_)
    intro w5 m5 g5
    have M5 := Lib.hid m5; clear m5
    go_wp2_with (refine wpList_insert _ rfl _ _ _ 89 rfl 84 75 Tryd.underlying89 Tryd.underlying84 w.heap.size rfl _ _ M5.out _ _ rfl rfl rfl ?_)
    intro w6 m6 g6
    have M6 := Lib.hid m6; clear m6
    go_wp2_with (refine wpList_insert _ rfl _ _ _ 89 rfl 84 75 Tryd.underlying89 Tryd.underlying84 w.heap.size rfl _ _ M6.out _ _ rfl rfl rfl ?_)
    intro w7 m7 g7
    have M7 := Lib.hid m7; clear m7
    have G := grown_trans (grown_trans (grown_trans (grown_trans (grown_trans (grown_trans g1 g2) g3) g4) g5) g6) g7
    have F := Lib.hid (show ExcPost 7 w (.returned (.map (some w.heap.size))) w7 from ⟨_, rfl, .inr ⟨w.heap.size, _, _, rfl, Nat.le_refl _, M7.out, fun x hx => exc7 hx _ _ _ _ _ _ _⟩, HB.out.grown G (Nat.le_of_lt HS.out) (fun k hk => by injection hk with hk; omega)⟩)
    clear G g1 g2 g3 g4 g5 g6 g7
    go_wp2_with fail
    go_ret
    exact F.out
  · have F := Lib.hid (show ExcPost k w (.returned (.map none)) w from ⟨_, rfl, .inl ⟨rfl, fun x _ => by unfold exceptS; rw [if_neg h1, if_neg h7]⟩, Below.refl _ _⟩)
    go_enter Tryd.func58, Tryd.ntmps58
    go_wp2_with fail
    go_ret
    exact F.out
end Go.Proofs.YtnmjcjkjdbkpnaaDoor
