/-
  The robot of a cluster tool: the table by the number of blades.
-/
import Derived.Test.YtiolmcnngpaapaaRb
import Derived.Laws.EntriesVeiled
namespace Go.Proofs.Ytiolmcnngpaapaa
open Go.RowKit Go.Shelf Go.ChangeMaps Go.MapKept Cl

theorem run_checkKey_int (k : TypeId) (hk : Try.prog.underlying k = some (.int .i64)) (c : Bool) (x : Int) (w : World) : (Instr.checkKey c 10000 k (.int .i64 x)).run Try.prog w = .ok () w := by
  show (Instr.checkKey c (9999 + 1) k (.int .i64 x)).run Try.prog w = _
  rw [Instr.checkKey]
  simp [run_underlying hk, Result.andThen]
theorem run_findKey_int (k : TypeId) (hk : Try.prog.underlying k = some (.int .i64)) (x : Int) (es : List MapEntry) (res : Option (Nat × Value)) (hf : Instr.findNow (.int .i64) (.int .i64 x) es 0 = some res) (w : World) : (Instr.findKey k (.int .i64 x) es).run Try.prog w = .ok res w := by
  simp [Instr.findKey, run_underlying hk, hf, Result.andThen]
theorem run_lookup_at (w : World) (t k e : TypeId) (b : Nat) (es : Array MapEntry) (clock : Nat) (x : Int) (i : Nat) (v : Value) (ht : Try.prog.underlying t = some (.map k e)) (hk : Try.prog.underlying k = some (.int .i64)) (hb : w.heap[b]? = some (.map es clock))
    (hf : Instr.findNow (.int .i64) (.int .i64 x) es.toList 0 = some (some (i, v))) : (Instr.lookup t (.map (some b)) (.int .i64 x) false).run Try.prog w = .ok v w := by
  simp [Instr.lookup, run_underlying ht, MapKept.run_getObj_map hb, run_checkKey_int k hk, run_findKey_int k hk x _ _ hf, Result.andThen]
theorem wpList_insert (w : World) {ops : Array Oper} {rest : List Oper} {o : Oper} {a : Act} {Q : Exit → Act → World → Prop}
    (hg : o.guard = none) (m x v : Operand) (t : TypeId) (hop : o.op = Op.insert t m x v)
    (k e : TypeId) (ht : Try.prog.underlying t = some (.map k e)) (hk : Try.prog.underlying k = some (.int .i64)) (b : Nat) (hm : a.eval m = .map (some b)) (es : Array MapEntry) (clock : Nat) (hb : w.heap[b]? = some (.map es clock))
    (kx : Int) (val : Value) (hx : a.eval x = .int .i64 kx) (hv : a.eval v = val) (hf : Instr.findNow (.int .i64) (.int .i64 kx) es.toList 0 = some none)
    (hK : ∀ w', w'.heap[b]? = some (.map (es.push ⟨.int .i64 kx, val, clock⟩) (clock + 1)) → w.grownBy w' (some b) → wpList Try.prog ops Q rest (a.put o.dst undef) w') :
    wpList Try.prog ops Q (o :: rest) a w := by
  refine wpList_plain hg fun K' hK' => ?_
  have hrun : (Instr.mapUpdate t (.map (some b)) (.int .i64 kx) val).run Try.prog w = .ok () (setBlock w b (.map (es.push ⟨.int .i64 kx, val, clock⟩) (clock + 1))) := by
    simp [Instr.mapUpdate, run_underlying ht, MapKept.run_getObj_map hb, run_checkKey_int k hk, run_findKey_int k hk kx _ _ hf, MapKept.run_setObj_map _ hb, Result.andThen, setBlock]
  have r1 := heap_setBlock_same hb (.map (es.push ⟨.int .i64 kx, val, clock⟩) (clock + 1))
  have r2 : w.grownBy (setBlock w b (.map (es.push ⟨.int .i64 kx, val, clock⟩) (clock + 1))) (some b) := ⟨rfl, rfl, rfl, by simp [setBlock], fun i _ hi => heap_setBlock_other hb _ (fun e => hi (by rw [e]))⟩
  unfold Oper.wp
  simp [execOp, hop, hm, hx, hv, hrun, Result.andThen]
  exact hK' _ _ (hK _ r1 r2)

theorem cell_grown {w w' : World} {b : Nat} (hg : w.grownBy w' (some b)) {a : Addr} {v : Value} (h : w.cell? a = some v) (hne : a.block ≠ b) : w'.cell? a = some v :=
  hg.cell h (by intro e; injection e with e; exact hne e)

theorem grown_trans {a b c : World} {row : Option Nat} (h : a.grownBy b row) (k : b.grownBy c row) : a.grownBy c row :=
  ⟨k.os.trans h.os, k.tape.trans h.tape, k.output.trans h.output, Nat.le_trans h.size k.size, fun i hi hr => (k.block i (Nat.lt_of_lt_of_le hi h.size) hr).trans (h.block i hi hr)⟩

abbrev fnV (n : Nat) : Value := .func (.func n) #[] #[]
abbrev rob1 : Value := .agg #[fnV 59, fnV 60, fnV 61, fnV 62]
abbrev rob2 : Value := .agg #[fnV 65, fnV 66, fnV 67, fnV 68]
set_option maxRecDepth 100000 in
set_option maxHeartbeats 1000000 in
theorem robotOf_any (c : Tool) (hc : c.blades = 1 ∨ c.blades = 2) (a : Option Addr) (k : Nat) (w : World) :
    Calls Try.prog 34 #[toolV c a k] w fun e w' => e = .returned (if c.blades = 1 then rob1 else rob2) ∧ Below w.heap.size w w' := by
  have hmm := @run_makeMap Try.prog
  have h0 : (((w.alloc (toolObj c a k)).alloc (.cells #[.nilFunc, .nilFunc, .nilFunc, .nilFunc] 76)).alloc (.map #[] 0)).heap[w.heap.size + 1 + 1]? = some (.map #[] 0) := by
    have := heap_alloc_new ((w.alloc (toolObj c a k)).alloc (.cells #[.nilFunc, .nilFunc, .nilFunc, .nilFunc] 76)) (.map #[] 0)
    rw [show ((w.alloc (toolObj c a k)).alloc (.cells #[.nilFunc, .nilFunc, .nilFunc, .nilFunc] 76)).heap.size = w.heap.size + 1 + 1 by simp] at this
    exact this
  have h1 : (((w.alloc (toolObj c a k)).alloc (.cells #[.nilFunc, .nilFunc, .nilFunc, .nilFunc] 76)).alloc (.map #[] 0)).heap[w.heap.size + 1]? = some (.cells #[.nilFunc, .nilFunc, .nilFunc, .nilFunc] 76) := by
    have := heap_alloc_new (w.alloc (toolObj c a k)) (.cells #[.nilFunc, .nilFunc, .nilFunc, .nilFunc] 76)
    rw [show (w.alloc (toolObj c a k)).heap.size = w.heap.size + 1 by simp] at this
    exact box_below this (below_new _ _)
  have HB := Lib.hid (((((Below.refl w.heap.size w).alloc (Nat.le_refl _) (toolObj c a k)).alloc (by simp) (.cells #[.nilFunc, .nilFunc, .nilFunc, .nilFunc] 76))).alloc (by simp; omega) (.map #[] 0))
  have HC := Lib.hid (show (((w.alloc (toolObj c a k)).alloc (.cells #[.nilFunc, .nilFunc, .nilFunc, .nilFunc] 76)).alloc (.map #[] 0)).cell? ⟨w.heap.size, 4, none⟩ = some (.int .i64 c.blades) by go_simp)
  have hs : w.heap.size + 2 < (((w.alloc (toolObj c a k)).alloc (.cells #[.nilFunc, .nilFunc, .nilFunc, .nilFunc] 76)).alloc (.map #[] 0)).heap.size := by simp
  have H0 := Lib.hid h0; have H1 := Lib.hid h1
  have HS := Lib.hid hs
  clear h0 h1 hs
  have HE := Lib.hid (show ∀ R : Value, ((c.blades = 1 ∧ R = rob1) ∨ (c.blades = 2 ∧ R = rob2)) → (if c.blades = 1 then rob1 else rob2) = R from fun R h => by
    rcases h with ⟨h, rfl⟩ | ⟨h, rfl⟩
    · rw [if_pos h]
    · rw [if_neg (by omega)])
  generalize (if c.blades = 1 then rob1 else rob2) = RV at *
  go_enter Try.func34, Try.ntmps34
  go_wp2_with (refine wpList_insert _ rfl _ _ _ 101 rfl 3 76 Try.underlying101 Try.underlying3 (w.heap.size + 1 + 1) rfl #[] 0 H0.out _ _ rfl rfl rfl ?_)
  intro w1 m1 g1
  have M1 := Lib.hid m1; clear m1
  go_wp2_with (refine wpList_insert _ rfl _ _ _ 101 rfl 3 76 Try.underlying101 Try.underlying3 (w.heap.size + 1 + 1) rfl _ _ M1.out _ _ rfl rfl rfl ?_)
  intro w2 m2 g2
  have M2 := Lib.hid m2; clear m2
  have G := grown_trans g1 g2
  have HB2 := Lib.hid (HB.out.grown G HB.out.size (fun k hk => by injection hk with hk; omega))
  have hb := cell_grown G HC.out (by simp; omega)
  have HR := Lib.hid (show w2.heap[w.heap.size + 1]? = some (.cells #[.nilFunc, .nilFunc, .nilFunc, .nilFunc] 76) from (G.block _ (lt_of_block H1.out) (by intro e; injection e with e; omega)).trans H1.out)
  clear G g1 g2 H1 H0 M1 HB HC
  have c0 : w2.cell? ⟨w.heap.size + 1, 0, none⟩ = some .nilFunc := box_cell HR.out 0 _ rfl
  have c1 : w2.cell? ⟨w.heap.size + 1, 1, none⟩ = some .nilFunc := box_cell HR.out 1 _ rfl
  have c2 : w2.cell? ⟨w.heap.size + 1, 2, none⟩ = some .nilFunc := box_cell HR.out 2 _ rfl
  have c3 : w2.cell? ⟨w.heap.size + 1, 3, none⟩ = some .nilFunc := box_cell HR.out 3 _ rfl
  have z0 : w2.frozen? ⟨w.heap.size + 1, 0, none⟩ = false := box_fz HR.out 0
  have z1 : w2.frozen? ⟨w.heap.size + 1, 1, none⟩ = false := box_fz HR.out 1
  have z2 : w2.frozen? ⟨w.heap.size + 1, 2, none⟩ = false := box_fz HR.out 2
  have z3 : w2.frozen? ⟨w.heap.size + 1, 3, none⟩ = false := box_fz HR.out 3
  have HSl := Lib.hid (lt_of_block HR.out)
  have hB3 : ∀ W, w2.grownBy W (some (w.heap.size + 1)) → Below w.heap.size w W := fun W hg => HB2.out.grown hg HB2.out.size (fun k hk => by injection hk with hk; omega)
  have HB3 := Lib.hid hB3
  clear hB3 HB2
  rcases hc with hc | hc
  · have hl : (Instr.lookup 101 (.map (some (w.heap.size + 1 + 1))) (.int .i64 c.blades) false).run Try.prog w2 = .ok rob1 w2 := by
      rw [hc]; exact run_lookup_at w2 101 3 76 _ _ _ 1 0 rob1 Try.underlying101 Try.underlying3 M2.out rfl
    have hRV := HE.out rob1 (.inl ⟨hc, rfl⟩)
    subst hRV
    clear hc HE M2
    go_wp2_with fail
    refine bodyPost_ret (v := rob1) (by simp [results, Try.results34, go_sem, c0, c1, c2, c3]) rfl ⟨rfl, ?_⟩
    exact (HB3.out _ (grown_trans (grown_trans (grown_trans (grown_set _ _ _) (grown_set _ _ _)) (grown_set _ _ _)) (grown_set _ _ _)))
  · have hl : (Instr.lookup 101 (.map (some (w.heap.size + 1 + 1))) (.int .i64 c.blades) false).run Try.prog w2 = .ok rob2 w2 := by
      rw [hc]; exact run_lookup_at w2 101 3 76 _ _ _ 2 1 rob2 Try.underlying101 Try.underlying3 M2.out rfl
    have hRV := HE.out rob2 (.inr ⟨hc, rfl⟩)
    subst hRV
    clear hc HE M2
    go_wp2_with fail
    refine bodyPost_ret (v := rob2) (by simp [results, Try.results34, go_sem, c0, c1, c2, c3]) rfl ⟨rfl, ?_⟩
    exact (HB3.out _ (grown_trans (grown_trans (grown_trans (grown_set _ _ _) (grown_set _ _ _)) (grown_set _ _ _)) (grown_set _ _ _)))
end Go.Proofs.Ytiolmcnngpaapaa
