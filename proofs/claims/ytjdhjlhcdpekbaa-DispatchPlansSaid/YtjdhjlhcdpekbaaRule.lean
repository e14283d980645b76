/-
  A rule's function as a value; what firstOf's function answers.
-/
import Derived.Test.YtjdhjlhcdpekbaaJb
import Derived.Deep.LoopGhost
import Derived.Maps.Own
namespace Go.Proofs.Ytjdhjlhcdpekbaa
open Go.RowKit Go.Shelf Go.Sort Dsp Go.ChangeMaps Go.MapKept

theorem by_fn (q B : Nat) (r : Int) (hq : q ≤ 6) : ∃ (F : Nat) (caps : Array Value), byV B q = .func (.func F) #[] caps ∧ (∀ args w, (callFunc F args).run Try.prog w = .ok (.enter F args) w) ∧
    ∀ (a b : Jb) (w : World), w.cell? ⟨B, 0, none⟩ = some (.int .i64 r) → Calls Try.prog F (#[jbV a, jbV b] ++ caps) w (GrB w (isBy q r a b)) := by
  obtain rfl | rfl | rfl | rfl | rfl | rfl | rfl : q = 0 ∨ q = 1 ∨ q = 2 ∨ q = 3 ∨ q = 4 ∨ q = 5 ∨ q = 6 := by omega
  · exact ⟨74, #[], rfl, enters_of Try.func74 (by kernel_rfl) rfl, fun a b w _ => comparison1_any a b w⟩
  · exact ⟨91, #[], rfl, enters_of Try.func91 (by kernel_rfl) rfl, fun a b w _ => by1_any a b w⟩
  · exact ⟨92, #[], rfl, enters_of Try.func92 (by kernel_rfl) rfl, fun a b w _ => by2_any a b w⟩
  · exact ⟨93, #[.pointer (some ⟨B, 0, none⟩)], rfl, enters_of Try.func93 (by kernel_rfl) rfl, fun a b w h => by3_any a b r B w h⟩
  · exact ⟨94, #[], rfl, enters_of Try.func94 (by kernel_rfl) rfl, fun a b w _ => by4_any a b w⟩
  · exact ⟨95, #[], rfl, enters_of Try.func95 (by kernel_rfl) rfl, fun a b w _ => by5_any a b w⟩
  · exact ⟨96, #[], rfl, enters_of Try.func96 (by kernel_rfl) rfl, fun a b w _ => by6_any a b w⟩

/-- The comparison by a list of rules' numbers (0: by lots). -/
def cmpQ : List Nat → Int → Jb → Jb → Int
  | [], _, _, _ => 0
  | q :: l, r, a, b => if isBy q r a b = true then -1 else if isBy q r b a = true then 1 else cmpQ l r a b
/-- A slice of rules' functions. -/
def FnA (w : World) (a : Option Addr) (c B : Nat) (qs : List Nat) : Prop :=
  qs.length ≤ c ∧ c ≤ maxLen ∧ ∀ i (h : i < qs.length), qs[i] ≤ 6 ∧ ∃ b off : Nat, a = some ⟨b, off, none⟩ ∧ b < w.heap.size ∧ w.cell? ⟨b, off + i, none⟩ = some (byV B qs[i])
theorem FnA.below {w w' : World} {a : Option Addr} {c B : Nat} {qs : List Nat} (h : FnA w a c B qs) (hb : Below w.heap.size w w') : FnA w' a c B qs := by
  refine ⟨h.1, h.2.1, fun i hi => ?_⟩
  obtain ⟨hq, b, off, rfl, h1, h2⟩ := h.2.2 i hi
  exact ⟨hq, b, off, rfl, Nat.lt_of_lt_of_le h1 hb.size, cell_below hb h2⟩
/-- What a comparison's box leads to, in blocks from b0 on. -/
structure CmpAt (b0 X : Nat) (qs : List Nat) (r : Int) (w : World) : Prop where
  row : ∃ a c B, w.cell? ⟨X, 0, none⟩ = some (.slice a qs.length c) ∧ FnA w a c B qs ∧ w.cell? ⟨B, 0, none⟩ = some (.int .i64 r) ∧ b0 ≤ X ∧ b0 ≤ B ∧ ∀ x, a = some x → b0 ≤ x.block
theorem CmpAt.below {b0 X : Nat} {qs : List Nat} {r : Int} {w w' : World} (h : CmpAt b0 X qs r w) (hb : Below w.heap.size w w') : CmpAt b0 X qs r w' := by
  obtain ⟨a, c, B, h1, h2, h3, h4⟩ := h.row
  exact ⟨a, c, B, cell_below hb h1, h2.below hb, cell_below hb h3, h4⟩
theorem cell_ch {S : Nat → Prop} {w w' : World} (hc : Ch S w w') {a : Addr} {v : Value} (h : w.cell? a = some v) (hS : ¬ S a.block) : w'.cell? a = some v :=
  (World.cell?_of_block (hc.block a.block (World.block_lt_of_cell? w a h) hS)).trans h
theorem CmpAt.ch {S : Nat → Prop} {b0 X : Nat} {qs : List Nat} {r : Int} {w w' : World} (h : CmpAt b0 X qs r w) (hc : Ch S w w') (hS : ∀ k, b0 ≤ k → ¬ S k) : CmpAt b0 X qs r w' := by
  obtain ⟨a, c, B, h1, h2, h3, h4, h5, h6⟩ := h.row
  refine ⟨a, c, B, cell_ch hc h1 (hS _ h4), ⟨h2.1, h2.2.1, fun i hi => ?_⟩, cell_ch hc h3 (hS _ h5), h4, h5, h6⟩
  obtain ⟨hq, b, off, rfl, h7, h8⟩ := h2.2.2 i hi
  exact ⟨hq, b, off, rfl, Nat.lt_of_lt_of_le h7 hc.size, cell_ch hc h8 (hS _ (h6 ⟨b, off, none⟩ rfl))⟩

set_option maxRecDepth 100000 in
set_option maxHeartbeats 1000000 in
theorem firstOf1_any (b0 X : Nat) (qs : List Nat) (r : Int) (a b : Jb) (w : World) (h : CmpAt b0 X qs r w) :
    Calls Try.prog 97 #[jbV a, jbV b, .pointer (some ⟨X, 0, none⟩)] w fun e w' => e = .returned (.int .i64 (cmpQ qs r a b)) ∧ Gr w w' := by
  obtain ⟨p, c, B, hX, hF, hB, -⟩ := h.row
  have hl := Nat.le_trans hF.1 hF.2.1
  unfold maxLen at hl
  have hcx : ∀ o o' : Obj, ((w.alloc o).alloc o').cell? ⟨X, 0, none⟩ = some (.slice p qs.length c) := fun o o' => cell_below (below_step (below_new w o) (below_new (w.alloc o) o')) hX
  have HF := Lib.hid hF; have HB := Lib.hid hB
  clear h hF hB hX
  obtain ⟨a0, a1, a2, a3, a4, a5, a6⟩ := a
  obtain ⟨b0, b1, b2, b3, b4, b5, b6⟩ := b
  go_enter Try.func97, Try.ntmps97
  go_wp2_with fail
  go_loopw [10] (fun i wr => ∃ k : Nat, k ≤ qs.length ∧ i = .int .i64 (k : Int) ∧ Hid (cmpQ (qs.drop k) r ⟨a0, a1, a2, a3, a4, a5, a6⟩ ⟨b0, b1, b2, b3, b4, b5, b6⟩ = cmpQ qs r ⟨a0, a1, a2, a3, a4, a5, a6⟩ ⟨b0, b1, b2, b3, b4, b5, b6⟩) ∧ Hid (Gr w wr) ∧ Hid (JbC wr w.heap.size 0 ⟨a0, a1, a2, a3, a4, a5, a6⟩ ∧ JbC wr (w.heap.size + 1) 0 ⟨b0, b1, b2, b3, b4, b5, b6⟩)) (fun i _ => qs.length - (intOf i).toNat)
  case atStart => exact ⟨0, Nat.zero_le _, rfl, Lib.hid rfl, Lib.hid (((Gr.refl _).alloc _).alloc _), Lib.hid ⟨by unfold JbC; go_simp, by unfold JbC; go_simp⟩⟩
  case round =>
    obtain ⟨k, hk, rfl, HE, HG, HJ⟩ := hrel
    by_cases hlt : k < qs.length
    · obtain ⟨hq, g, off, rfl, hg, hc⟩ := HF.out.2.2 k hlt
      obtain ⟨F, caps, hv, he, hC⟩ := by_fn qs[k] B r hq
      rw [hv] at hc
      have hc' := cell_below HG.out.below hc
      have HBr := Lib.hid (cell_below HG.out.below HB.out)
      have HS := Lib.hid (show cmpQ (qs.drop k) r ⟨a0, a1, a2, a3, a4, a5, a6⟩ ⟨b0, b1, b2, b3, b4, b5, b6⟩ = if isBy qs[k] r ⟨a0, a1, a2, a3, a4, a5, a6⟩ ⟨b0, b1, b2, b3, b4, b5, b6⟩ = true then -1 else if isBy qs[k] r ⟨b0, b1, b2, b3, b4, b5, b6⟩ ⟨a0, a1, a2, a3, a4, a5, a6⟩ = true then 1 else cmpQ (qs.drop (k + 1)) r ⟨a0, a1, a2, a3, a4, a5, a6⟩ ⟨b0, b1, b2, b3, b4, b5, b6⟩ by rw [List.drop_eq_getElem_cons hlt]; rfl)
      have HC1 := Lib.hid (hC ⟨a0, a1, a2, a3, a4, a5, a6⟩ ⟨b0, b1, b2, b3, b4, b5, b6⟩)
      have HC2 := Lib.hid (hC ⟨b0, b1, b2, b3, b4, b5, b6⟩ ⟨a0, a1, a2, a3, a4, a5, a6⟩)
      obtain ⟨⟨j0, j1, j2, j3, j4, j5, j6⟩, ⟨i0, i1, i2, i3, i4, i5, i6⟩⟩ := HJ.out
      simp only [Nat.zero_add] at j0 j1 j2 j3 j4 j5 j6 i0 i1 i2 i3 i4 i5 i6
      have k0 : (0 : Int) ≤ (k : Int) := by omega
      have k1 : (k : Int) < (qs.length : Int) := by omega
      clear hc hv hC hq
      generalize isBy qs[k] r ⟨a0, a1, a2, a3, a4, a5, a6⟩ ⟨b0, b1, b2, b3, b4, b5, b6⟩ = x at *
      generalize isBy qs[k] r ⟨b0, b1, b2, b3, b4, b5, b6⟩ ⟨a0, a1, a2, a3, a4, a5, a6⟩ = y at *
      go_wp2_with fail
      refine (HC1.out _ HBr.out).mono ?_
      rintro _ w1 ⟨rfl, g1⟩
      have HG1 := Lib.hid (HG.out.trans g1)
      have bl := g1.below
      cases x with
      | true =>
        have HR := Lib.hid (show cmpQ qs r ⟨a0, a1, a2, a3, a4, a5, a6⟩ ⟨b0, b1, b2, b3, b4, b5, b6⟩ = -1 by rw [← HE.out, HS.out, if_pos rfl])
        clear g1 bl
        go_wp2_with fail
        go_ret
        exact ⟨ret_int HR.out.symm, HG1.out⟩
      | false =>
        have HB1 := Lib.hid (cell_below bl HBr.out)
        replace j0 := cell_below bl j0; replace j1 := cell_below bl j1; replace j2 := cell_below bl j2; replace j3 := cell_below bl j3; replace j4 := cell_below bl j4; replace j5 := cell_below bl j5; replace j6 := cell_below bl j6
        replace i0 := cell_below bl i0; replace i1 := cell_below bl i1; replace i2 := cell_below bl i2; replace i3 := cell_below bl i3; replace i4 := cell_below bl i4; replace i5 := cell_below bl i5; replace i6 := cell_below bl i6
        have HJ1 := Lib.hid (show JbC w1 w.heap.size 0 ⟨a0, a1, a2, a3, a4, a5, a6⟩ ∧ JbC w1 (w.heap.size + 1) 0 ⟨b0, b1, b2, b3, b4, b5, b6⟩ from ⟨HJ.out.1.below bl, HJ.out.2.below bl⟩)
        clear g1 bl
        go_wp2_with fail
        refine (HC2.out _ HB1.out).mono ?_
        rintro _ w2 ⟨rfl, g2⟩
        have HG2 := Lib.hid (HG1.out.trans g2)
        have HJ2 := Lib.hid (show JbC w2 w.heap.size 0 ⟨a0, a1, a2, a3, a4, a5, a6⟩ ∧ JbC w2 (w.heap.size + 1) 0 ⟨b0, b1, b2, b3, b4, b5, b6⟩ from ⟨HJ1.out.1.below g2.below, HJ1.out.2.below g2.below⟩)
        clear g2
        cases y with
        | true =>
          have HR := Lib.hid (show cmpQ qs r ⟨a0, a1, a2, a3, a4, a5, a6⟩ ⟨b0, b1, b2, b3, b4, b5, b6⟩ = 1 by rw [← HE.out, HS.out, if_neg (by decide), if_pos rfl])
          go_wp2_with fail
          go_ret
          exact ⟨ret_int HR.out.symm, HG2.out⟩
        | false =>
          have HR := Lib.hid (show cmpQ (qs.drop (k + 1)) r ⟨a0, a1, a2, a3, a4, a5, a6⟩ ⟨b0, b1, b2, b3, b4, b5, b6⟩ = cmpQ qs r ⟨a0, a1, a2, a3, a4, a5, a6⟩ ⟨b0, b1, b2, b3, b4, b5, b6⟩ by rw [← HE.out, HS.out, if_neg (by decide), if_neg (by decide)])
          go_wp2_with fail
          go_roundw
          case rel => exact ⟨k + 1, hlt, by go_num, HR, HG2, HJ2⟩
          case measure => simp [intOf]; omega
    · have k1 : ¬ (k : Int) < (qs.length : Int) := by omega
      have HR := Lib.hid (show cmpQ qs r ⟨a0, a1, a2, a3, a4, a5, a6⟩ ⟨b0, b1, b2, b3, b4, b5, b6⟩ = 0 by rw [← HE.out, List.drop_of_length_le (by omega)]; rfl)
      go_wp2_with fail
      go_ret
      exact ⟨ret_int HR.out.symm, HG.out⟩

/-! ### the map of rules -/
theorem run_checkKey_int (k : TypeId) (hk : Try.prog.underlying k = some (.int .i64)) (c : Bool) (x : Int) (w : World) : (Instr.checkKey c 10000 k (.int .i64 x)).run Try.prog w = .ok () w := by
  show (Instr.checkKey c (9999 + 1) k (.int .i64 x)).run Try.prog w = _
  rw [Instr.checkKey]
  simp [run_underlying hk, Result.andThen]
theorem run_findKey_int (k : TypeId) (hk : Try.prog.underlying k = some (.int .i64)) (x : Int) (es : List MapEntry) (res : Option (Nat × Value)) (hf : Instr.findNow (.int .i64) (.int .i64 x) es 0 = some res) (w : World) : (Instr.findKey k (.int .i64 x) es).run Try.prog w = .ok res w := by
  simp [Instr.findKey, run_underlying hk, hf, Result.andThen]
theorem run_lookup_at (w : World) (t k e : TypeId) (b : Nat) (es : Array MapEntry) (clock : Nat) (x : Int) (i : Nat) (v : Value) (ht : Try.prog.underlying t = some (.map k e)) (hk : Try.prog.underlying k = some (.int .i64)) (hb : w.heap[b]? = some (.map es clock))
    (hf : Instr.findNow (.int .i64) (.int .i64 x) es.toList 0 = some (some (i, v))) : (Instr.lookup t (.map (some b)) (.int .i64 x) false).run Try.prog w = .ok v w := by
  simp [Instr.lookup, run_underlying ht, MapKept.run_getObj_map hb, run_checkKey_int k hk, run_findKey_int k hk x _ _ hf, Result.andThen]
theorem wpList_insert (w : World) {ops : Array Oper} {rest : List Oper} {o : Oper} {a : Act} {Q : Exit → Act → World → Prop}
    (hg : o.guard = none) (m x v : Operand) (t : TypeId) (hop : o.op = Op.insert t m x v)
    (k e : TypeId) (ht : Try.prog.underlying t = some (.map k e)) (hk : Try.prog.underlying k = some (.int .i64)) (b : Nat) (hm : a.eval m = .map (some b)) (es : Array MapEntry) (clock : Nat) (hb : w.heap[b]? = some (.map es clock))
    (kx : Int) (val : Value) (hx : a.eval x = .int .i64 kx) (hv : a.eval v = val) (hf : Instr.findNow (.int .i64) (.int .i64 kx) es.toList 0 = some none)
    (hK : ∀ w', w'.heap[b]? = some (.map (es.push ⟨.int .i64 kx, val, clock⟩) (clock + 1)) → w.grownBy w' (some b) → wpList Try.prog ops Q rest (a.put o.dst undef) w') :
    wpList Try.prog ops Q (o :: rest) a w := by
  refine wpList_plain hg fun K' hK' => ?_
  have hrun : (Instr.mapUpdate t (.map (some b)) (.int .i64 kx) val).run Try.prog w = .ok () (setBlock w b (.map (es.push ⟨.int .i64 kx, val, clock⟩) (clock + 1))) := by
    simp [Instr.mapUpdate, run_underlying ht, MapKept.run_getObj_map hb, run_checkKey_int k hk, run_findKey_int k hk kx _ _ hf, MapKept.run_setObj_map _ hb, Result.andThen, setBlock]
  have r1 := heap_setBlock_same hb (.map (es.push ⟨.int .i64 kx, val, clock⟩) (clock + 1))
  have r2 : w.grownBy (setBlock w b (.map (es.push ⟨.int .i64 kx, val, clock⟩) (clock + 1))) (some b) := ⟨rfl, rfl, rfl, by simp [setBlock], fun i _ hi => heap_setBlock_other hb _ (fun e => hi (by rw [e]))⟩
  unfold Oper.wp
  simp [execOp, hop, hm, hx, hv, hrun, Result.andThen]
  exact hK' _ _ (hK _ r1 r2)

/-- The map of the rules' functions, for the recipe in the box B. -/
def MapAt (w : World) (M B : Nat) : Prop := ∃ es clock, w.heap[M]? = some (.map es clock) ∧ ∀ x : Nat, 1 ≤ x → x ≤ 6 → ∃ i, Instr.findNow (.int .i64) (.int .i64 (x : Int)) es.toList 0 = some (some (i, byV B x))
theorem MapAt.below {w w' : World} {M B : Nat} (h : MapAt w M B) (hb : Below w.heap.size w w') : MapAt w' M B := by
  obtain ⟨es, clock, h1, h2⟩ := h
  exact ⟨es, clock, (hb.block M (lt_of_block h1)).trans h1, h2⟩
theorem cell_grown {w w' : World} {b : Nat} (hg : w.grownBy w' (some b)) {a : Addr} {v : Value} (h : w.cell? a = some v) (hne : a.block ≠ b) : w'.cell? a = some v :=
  hg.cell h (by intro e; injection e with e; exact hne e)

theorem grown_trans {a b c : World} {row : Option Nat} (h : a.grownBy b row) (k : b.grownBy c row) : a.grownBy c row :=
  ⟨k.os.trans h.os, k.tape.trans h.tape, k.output.trans h.output, Nat.le_trans h.size k.size, fun i hi hr => (k.block i (Nat.lt_of_lt_of_le hi h.size) hr).trans (h.block i hi hr)⟩
theorem mapAt_new {w : World} {M B : Nat} {clock : Nat} {es : Array MapEntry} (h : w.heap[M]? = some (.map es clock)) (he : ∃ c1 c2 c3 c4 c5 c6 : Nat, es = #[⟨.int .i64 1, byV B 1, c1⟩, ⟨.int .i64 2, byV B 2, c2⟩, ⟨.int .i64 3, byV B 3, c3⟩, ⟨.int .i64 4, byV B 4, c4⟩, ⟨.int .i64 5, byV B 5, c5⟩, ⟨.int .i64 6, byV B 6, c6⟩]) : MapAt w M B := by
  obtain ⟨c1, c2, c3, c4, c5, c6, rfl⟩ := he
  refine ⟨_, clock, h, fun x h1 h6 => ?_⟩
  obtain rfl | rfl | rfl | rfl | rfl | rfl : x = 1 ∨ x = 2 ∨ x = 3 ∨ x = 4 ∨ x = 5 ∨ x = 6 := by omega
  · exact ⟨0, rfl⟩
  · exact ⟨1, rfl⟩
  · exact ⟨2, rfl⟩
  · exact ⟨3, rfl⟩
  · exact ⟨4, rfl⟩
  · exact ⟨5, rfl⟩
set_option maxRecDepth 100000 in
theorem aheadBy_any (r : Int) (w : World) : Calls Try.prog 73 #[.int .i64 r] w fun e w' => ∃ M B, e = .returned (.map (some M)) ∧ MapAt w' M B ∧ w'.cell? ⟨B, 0, none⟩ = some (.int .i64 r) ∧ w.heap.size ≤ B ∧ Below w.heap.size w w' := by
  have hmm := @run_makeMap Try.prog
  have h0 : ((w.alloc (.cells #[.int .i64 r] 3)).alloc (.map #[] 0)).heap[w.heap.size + 1]? = some (.map #[] 0) := by
    have := heap_alloc_new (w.alloc (.cells #[.int .i64 r] 3)) (.map #[] 0)
    rw [show (w.alloc (.cells #[.int .i64 r] 3)).heap.size = w.heap.size + 1 by simp] at this
    exact this
  have HB := Lib.hid (((Below.refl w.heap.size w).alloc (Nat.le_refl _) (.cells #[.int .i64 r] 3)).alloc (by simp) (.map #[] 0))
  have HC := Lib.hid (show ((w.alloc (.cells #[.int .i64 r] 3)).alloc (.map #[] 0)).cell? ⟨w.heap.size, 0, none⟩ = some (.int .i64 r) by go_simp)
  have hs : w.heap.size < ((w.alloc (.cells #[.int .i64 r] 3)).alloc (.map #[] 0)).heap.size := by simp; omega
  have H0 := Lib.hid h0
  have HS := Lib.hid hs
  clear h0 hs
  go_enter Try.func73, Try.ntmps73
  go_wp2_with (refine wpList_insert _ rfl _ _ _ 129 rfl 3 132 Try.underlying129 Try.underlying3 (w.heap.size + 1) rfl #[] 0 H0.out _ _ rfl rfl rfl ?_)
  intro w1 m1 g1
  have M1 := Lib.hid m1; clear m1
  go_wp2_with (refine wpList_insert _ rfl _ _ _ 129 rfl 3 132 Try.underlying129 Try.underlying3 (w.heap.size + 1) rfl _ _ M1.out _ _ rfl rfl rfl ?_)
  intro w2 m2 g2
  have M2 := Lib.hid m2; clear m2
  go_wp2_with (refine wpList_insert _ rfl _ _ _ 129 rfl 3 132 Try.underlying129 Try.underlying3 (w.heap.size + 1) rfl _ _ M2.out _ _ rfl rfl rfl ?_)
  intro w3 m3 g3
  have M3 := Lib.hid m3; clear m3
  go_wp2_with (refine wpList_insert _ rfl _ _ _ 129 rfl 3 132 Try.underlying129 Try.underlying3 (w.heap.size + 1) rfl _ _ M3.out _ _ rfl rfl rfl ?_)
  intro w4 m4 g4
  have M4 := Lib.hid m4; clear m4
  go_wp2_with (refine wpList_insert _ rfl _ _ _ 129 rfl 3 132 Try.underlying129 Try.underlying3 (w.heap.size + 1) rfl _ _ M4.out _ _ rfl rfl rfl ?_)
  intro w5 m5 g5
  have M5 := Lib.hid m5; clear m5
  go_wp2_with (refine wpList_insert _ rfl _ _ _ 129 rfl 3 132 Try.underlying129 Try.underlying3 (w.heap.size + 1) rfl _ _ M5.out _ _ rfl rfl rfl ?_)
  intro w6 m6 g6
  have M6 := Lib.hid m6; clear m6
  have G := grown_trans (grown_trans (grown_trans (grown_trans (grown_trans g1 g2) g3) g4) g5) g6
  have HR : Hid (MapAt w6 (w.heap.size + 1) w.heap.size ∧ w6.cell? ⟨w.heap.size, 0, none⟩ = some (.int .i64 r) ∧ w.heap.size ≤ w.heap.size ∧ Below w.heap.size w w6) := Lib.hid ⟨mapAt_new M6.out ⟨_, _, _, _, _, _, rfl⟩, cell_grown G HC.out (by simp), Nat.le_refl _, HB.out.grown G (Nat.le_of_lt HS.out) (fun k hk => by injection hk with hk; omega)⟩
  clear G g1 g2 g3 g4 g5 g6
  go_wp2_with fail
  go_ret
  exact ⟨_, _, rfl, HR.out⟩
end Go.Proofs.Ytjdhjlhcdpekbaa
