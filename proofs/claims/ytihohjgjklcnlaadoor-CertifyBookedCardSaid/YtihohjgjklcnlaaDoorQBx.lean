/-
  attempt: what stops the reader becomes its error.
  attempt: what stops the reader becomes its error.
  Open.
-/
import Derived.Test.YtihohjgjklcnlaaDoorQBu
import Derived.Tactics2
import Derived.Defers
import Derived.Recover
import Derived.Laws.Pointers
import Derived.Test.YtihohjgjklcnlaaDoorQBw
namespace Go.Proofs.YtihohjgjklcnlaaDoor
open Go.RowKit Go.Shelf
attribute [local go_sem] Oper.semAt_some

set_option maxRecDepth 100000 in
theorem catch_idle (p : Addr) (w : World) :
    CallsD Tryd.prog 78 #[.pointer (some p)] .returning w fun e u' w' => e = .returned (.tuple #[]) ∧ u' = .returning ∧ w' = w := by
  refine callsD_of_wpS Tryd.func78 rfl fun c₀ cs hu => ?_
  apply wpS_seq
  apply wpS_region
  simp [wpOpsS, go_sem, recoverD, hu, Tryd.ntmps78, Exit.thenS]
  refine wpS_of_wp ?_
  change Code.wp _ _ _ { tmps := #[.pointer (some p), undef, undef, undef, .nilIface, undef, undef, undef, undef, undef], defers := [] } _
  go_wp2_with fail
  first
    | exact ⟨rfl, .returning, by cases c₀; simp_all, _, results_none rfl _ _ _, rfl, rfl, rfl⟩
theorem frame9 (p v : Value) : (#[p] ++ ((Array.replicate 9 undef).setIfInBounds 3 v) : Array Value) = #[p, undef, undef, undef, v, undef, undef, undef, undef, undef] := by
  simp [Array.replicate_succ]
theorem isErrno (v : Value) (xT : TypeId) (w : World) : (Instr.typeAssert (.iface 39 v) xT 39 true).run Tryd.prog w = .ok (.tuple #[v, .bool true]) w := by
  simp [Instr.typeAssert, go_sem]
set_option maxRecDepth 100000 in
theorem catch_panicking (p : Addr) (x n : Int) (older : List PanicEntry) (w : World) (hc : w.cell? p = some (.int .i64 x)) (hz : w.frozen? p = false) :
    CallsD Tryd.prog 78 #[.pointer (some p)] (.panicking ({ v := errV n, recovered := false } :: older)) w fun e u' w' =>
      e = .returned (.tuple #[]) ∧ u' = .panicking ({ v := errV n, recovered := true } :: older) ∧ w' = w.setCell p (.int .i64 n) := by
  refine callsD_of_wpS Tryd.func78 rfl fun c₀ cs hu => ?_
  apply wpS_seq
  apply wpS_region
  simp [wpOpsS, go_sem, recoverD, hu, Tryd.ntmps78, Exit.thenS]
  refine wpS_of_wp ?_
  have hE := isErrno
  first
    | rw [frame9]
  go_wp2_with fail
  first
    | exact ⟨rfl, _, rfl, _, results_none rfl _ _ _, rfl, rfl, rfl⟩
end Go.Proofs.YtihohjgjklcnlaaDoor

namespace Go.Proofs.YtihohjgjklcnlaaDoor
open Go.RowKit Go.Shelf
attribute [local go_sem] Oper.semAt_some
/-- What a reading leaves as it was: all old memory but the reader's box. -/
def KeptBut (b : Nat) (W W' : World) : Prop := W.heap.size ≤ W'.heap.size ∧ ∀ k, k < W.heap.size → k ≠ b → W'.heap[k]? = W.heap[k]?
set_option maxRecDepth 100000 in
set_option maxHeartbeats 400000 in
theorem attempt_yes (K : FuncId) (b : Nat) (w : World) (R : World → Prop) (hb : b < w.heap.size)
    (hE : ∀ W, (callFunc K #[.pointer (some ⟨b, 0, none⟩)]).run Tryd.prog W = .ok (.enter K #[.pointer (some ⟨b, 0, none⟩)]) W)
    (hC : ∀ W, Below w.heap.size w W → w.heap.size < W.heap.size → Calls Tryd.prog K #[.pointer (some ⟨b, 0, none⟩)] W fun e W' => e = .returned (.tuple #[]) ∧ KeptBut b W W' ∧ R W') :
    Calls Tryd.prog 47 #[.func (.func K) #[.pointer (some ⟨b, 0, none⟩)] #[]] w fun e w' => e = .returned (.int .i64 0) ∧ ∃ W, R W ∧ w' = W.setCell ⟨w.heap.size, 0, none⟩ (.int .i64 0) := by
  have hmf : ∀ (fn : Fn) (first cap : Array Value) (w : World), (Instr.makeFunc fn first cap).run Tryd.prog w = .ok (.func fn first cap) w := fun _ _ _ _ => rfl
  have HC := Lib.hid hC; clear hC
  go_enter_defers Tryd.func47, Tryd.ntmps47
  go_wp2_with fail
  refine (HC.out _ (below_new _ _) (by simp)).mono ?_
  rintro e w1 ⟨rfl, hk, hR⟩
  have hn := (hk.2 w.heap.size (by simp) (by omega)).trans (heap_alloc_new w _)
  have c0 := box_cell hn 0 (.int .i64 0) rfl
  have f0 := box_fz hn 0
  have hl := lt_of_block hn
  have HR := Lib.hid hR
  clear hk hR hn
  go_wp2_with fail
  refine leaves_cons (f := 78) (args := #[.pointer (some ⟨w.heap.size, 0, none⟩)]) (by simp) (by simp [go_sem]) ?_
  refine (catch_idle _ _).mono ?_
  rintro e u' w'' ⟨rfl, rfl, rfl⟩
  have F := Lib.hid (show ∃ W, R W ∧ w1.setCell ⟨w.heap.size, 0, none⟩ (.int .i64 0) = W.setCell ⟨w.heap.size, 0, none⟩ (.int .i64 0) from ⟨w1, HR.out, rfl⟩)
  simp only [settle]
  first
    | exact ⟨.int .i64 0, by simp [results, Tryd.results47, go_sem, c0], rfl, F.out⟩
    | (simp [Leaves, settle, results, Tryd.results47, go_sem, c0]; exact F.out)
set_option maxRecDepth 100000 in
set_option maxHeartbeats 400000 in
theorem attempt_no (K : FuncId) (b : Nat) (n : Int) (w : World) (R : World → Prop) (hb : b < w.heap.size)
    (hE : ∀ W, (callFunc K #[.pointer (some ⟨b, 0, none⟩)]).run Tryd.prog W = .ok (.enter K #[.pointer (some ⟨b, 0, none⟩)]) W)
    (hC : ∀ W, Below w.heap.size w W → w.heap.size < W.heap.size → Calls Tryd.prog K #[.pointer (some ⟨b, 0, none⟩)] W fun e W' => e = stopped n ∧ KeptBut b W W' ∧ R W') :
    Calls Tryd.prog 47 #[.func (.func K) #[.pointer (some ⟨b, 0, none⟩)] #[]] w fun e w' => e = .returned (.int .i64 n) ∧ ∃ W, R W ∧ w' = W.setCell ⟨w.heap.size, 0, none⟩ (.int .i64 n) := by
  have hmf : ∀ (fn : Fn) (first cap : Array Value) (w : World), (Instr.makeFunc fn first cap).run Tryd.prog w = .ok (.func fn first cap) w := fun _ _ _ _ => rfl
  have HC := Lib.hid hC; clear hC
  go_enter_defers Tryd.func47, Tryd.ntmps47
  go_wp2_with fail
  refine (HC.out _ (below_new _ _) (by simp)).mono ?_
  rintro e w1 ⟨rfl, hk, hR⟩
  have hn := (hk.2 w.heap.size (by simp) (by omega)).trans (heap_alloc_new w _)
  have c0 := box_cell hn 0 (.int .i64 0) rfl
  have f0 := box_fz hn 0
  have hl := lt_of_block hn
  have HR := Lib.hid hR
  clear hk hR hn
  go_wp2_with fail
  refine leaves_cons (f := 78) (args := #[.pointer (some ⟨w.heap.size, 0, none⟩)]) (by simp) (by simp [go_sem]) ?_
  refine (catch_panicking _ 0 n [] _ c0 f0).mono ?_
  rintro e u' w'' ⟨rfl, rfl, rfl⟩
  have F := Lib.hid (show ∃ W, R W ∧ w1.setCell ⟨w.heap.size, 0, none⟩ (.int .i64 n) = W.setCell ⟨w.heap.size, 0, none⟩ (.int .i64 n) from ⟨w1, HR.out, rfl⟩)
  simp only [settle]
  first
    | exact ⟨.int .i64 n, by simp [results, Tryd.results47, go_sem, c0], rfl, F.out⟩
    | (simp [Leaves, settle, results, Tryd.results47, go_sem, c0]; exact F.out)
end Go.Proofs.YtihohjgjklcnlaaDoor

namespace Go.Proofs.YtihohjgjklcnlaaDoor
open Go.RowKit Go.Shelf
attribute [local go_sem] Oper.semAt_some
abbrev ow0 : Obj := .cells #[.int .i64 0, .int .i64 0, .int .i64 0, .slice none 0 0, .slice none 0 0] 28
/-- What Open leaves. -/
def OpenPost (w : World) : Except Int Pl.Plan → Ending → World → Prop
  | .ok p, e, w' => (∃ sa sc wa wc, e = .returned (.tuple #[PlanP.val ⟨p, sa, sc, wa, wc⟩, .int .i64 0]) ∧ PlanP.ok ⟨p, sa, sc, wa, wc⟩ w') ∧ Below w.heap.size w w'
  | .error n, e, w' => e = .returned (.tuple #[.agg #[.int .i64 0, .int .i64 0, .int .i64 0, .slice none 0 0, .slice none 0 0], .int .i64 n]) ∧ Below w.heap.size w w'
theorem openR_err {s : ByteArray} {n : Int} (h : openR s = .error n) : n ≠ 0 := by
  have key : ∀ {α : Type} {of : List Int → α} {m : Nat} {lo hi : Int} {L : List UInt8} {a : Int} {e : Int}, rdList of m lo hi L a = .error e → e ≠ 0 := by
    intro α of m lo hi L a e h
    unfold rdList at h
    split at h
    · injection h with h; omega
    · split at h
      · split at h
        · cases h
        · injection h with h; omega
      · injection h with h; omega
  unfold openR at h
  split at h
  · rename_i e he
    injection h with h; subst h
    unfold rdPlan at he
    split at he
    · injection he with he; omega
    · split at he
      · rename_i e1 h1
        injection he with he; subst he
        exact key h1
      · split at he
        · rename_i e2 h2
          injection he with he; subst he
          exact key h2
        · cases he
  · unfold openT at h
    split at h
    · injection h with h; omega
    · split at h
      · injection h with h; omega
      · split at h
        · cases h
        · injection h with h; omega
abbrev ow1 (s : ByteArray) : Obj := .cells #[.string s, .int .i64 0, .int .i64 0, .int .i64 0, .int .i64 0, .slice none 0 0, .slice none 0 0] 99
theorem put5 {W : World} {n : Nat} {a0 b0 c0 d0 e0 : Value} (h : W.heap[n]? = some (.cells #[a0, b0, c0, d0, e0] 28)) (a b c d e : Value) :
    (((((W.setCell ⟨n, 0, none⟩ a).setCell ⟨n, 1, none⟩ b).setCell ⟨n, 2, none⟩ c).setCell ⟨n, 3, none⟩ d).setCell ⟨n, 4, none⟩ e).heap[n]? = some (.cells #[a, b, c, d, e] 28) ∧
    Ch (fun k => k = n) W (((((W.setCell ⟨n, 0, none⟩ a).setCell ⟨n, 1, none⟩ b).setCell ⟨n, 2, none⟩ c).setCell ⟨n, 3, none⟩ d).setCell ⟨n, 4, none⟩ e) :=
  ⟨by rw [block_set (block_set (block_set (block_set (block_set h (o := 0) a) (o := 1) b) (o := 2) c) (o := 3) d) (o := 4) e]; rfl,
    ((((one_ch W n 0 a).trans (one_ch _ n 1 b) (fun _ _ h => h)).trans (one_ch _ n 2 c) (fun _ _ h => h)).trans (one_ch _ n 3 d) (fun _ _ h => h)).trans (one_ch _ n 4 e) (fun _ _ h => h)⟩
set_option maxRecDepth 100000 in
set_option maxHeartbeats 1000000 in
theorem Open_any (s : ByteArray) (w : World) (hs : s.size ≤ 2000) (ht : Wb.Tab w) : Calls Tryd.prog 21 #[.string s] w (OpenPost w (openR s)) := by
  have hmf : ∀ (fn : Fn) (first cap : Array Value) (w : World), (Instr.makeFunc fn first cap).run Tryd.prog w = .ok (.func fn first cap) w := fun _ _ _ _ => rfl
  have HT := Lib.hid ht
  have HS := Lib.hid hs
  clear ht hs
  have hb1 := below_new w ow0
  have hb2 := below_new (w.alloc ow0) (ow1 s)
  have R1 := Lib.hid (heap_alloc_new w ow0)
  have B2 := heap_alloc_new (w.alloc ow0) (ow1 s)
  have SZ := Lib.hid (show (w.alloc ow0).heap.size = w.heap.size + 1 by simp)
  rw [SZ.out] at B2
  have B2 := Lib.hid B2
  have R2 := Lib.hid (box_below R1.out hb2)
  have BL := Lib.hid (below_step hb1 hb2)
  have HT2 := Lib.hid ((HT.out.below hb1).below hb2)
  clear hb1 hb2 R1 HT SZ
  go_enter Tryd.func21, Tryd.ntmps21
  go_upto_region 2 with (fail)
  dsimp only [ow0, ow1] at B2 R2 BL HT2
  generalize (w.alloc (.cells #[.int .i64 0, .int .i64 0, .int .i64 0, .slice none 0 0, .slice none 0 0] 28)).alloc (.cells #[.string s, .int .i64 0, .int .i64 0, .int .i64 0, .int .i64 0, .slice none 0 0, .slice none 0 0] 99) = w2 at *
  have LB := Lib.hid (lt_of_block B2.out)
  cases hO : openR s with
  | ok p =>
    have AT := Lib.hid (attempt_yes 48 (w.heap.size + 1) w2 (fun V => Ch (fun k => k = w.heap.size + 1) w2 V ∧ ∃ sa sc wa wc a, V.heap[w.heap.size + 1]? = some (rdBox s a (.int .i64 p.entry) (.int .i64 p.mmin) (.int .i64 p.mmax) (.slice sa p.st.length sc) (.slice wa p.wn.length wc)) ∧ StO V (w2.heap.size + 1) (.slice sa p.st.length sc) p.st ∧ WnO V (w2.heap.size + 1) (.slice wa p.wn.length wc) p.wn) LB.out
      (fun _ => rfl) (fun W hW hlt => by
        have := readCert_any (w.heap.size + 1) s W (box_below B2.out hW) HS.out (HT2.out.below hW)
        rw [hO] at this
        refine this.mono fun e W' ⟨h1, h2, sa, sc, wa, wc, a, h3, h4, h5⟩ => ⟨h1, ⟨h2.size, fun k hk hne => h2.block k hk hne⟩, (Ch.ofBelow hW).trans h2 (fun _ _ e => e), sa, sc, wa, wc, a, h3, h4.mono hlt, h5.mono hlt⟩))
    have HO := Lib.hid hO
    clear hO
    go_wp2_with fail
    refine AT.out.mono ?_; rintro e w3 ⟨rfl, V, ⟨hc, sa, sc, wa, wc, a, hbx, hS, hW⟩, rfl⟩
    have O3 := one_ch V w2.heap.size 0 (.int .i64 0)
    have C3 := Lib.hid (show Ch (fun k => k = w.heap.size + 1 ∨ k = w2.heap.size) w2 (V.setCell ⟨w2.heap.size, 0, none⟩ (.int .i64 0)) from (hc.mono (fun _ e => .inl e)).trans O3 (fun _ _ e => .inr e))
    have B3 := Lib.hid ((O3.block _ (lt_of_block hbx) (by have := LB.out; omega)).trans hbx)
    have S3 := Lib.hid (own_ch hS O3 (own_ne hS (by omega)))
    have W3 := Lib.hid (own_ch hW O3 (own_ne hW (by omega)))
    have R3 := Lib.hid ((C3.out.block _ (lt_of_block R2.out) (by have := LB.out; omega)).trans R2.out)
    clear O3 hc hbx hS hW AT
    generalize V.setCell ⟨w2.heap.size, 0, none⟩ (.int .i64 0) = w3 at *
    have c2 := box_cell B3.out 2 (.int .i64 p.entry) rfl
    have c3 := box_cell B3.out 3 (.int .i64 p.mmin) rfl
    have c4 := box_cell B3.out 4 (.int .i64 p.mmax) rfl
    have c5 := box_cell B3.out 5 (.slice sa p.st.length sc) rfl
    have c6 := box_cell B3.out 6 (.slice wa p.wn.length wc) rfl
    have r0 := box_cell R3.out 0 (.int .i64 0) rfl
    have r1 := box_cell R3.out 1 (.int .i64 0) rfl
    have r2 := box_cell R3.out 2 (.int .i64 0) rfl
    have r3 := box_cell R3.out 3 (.slice none 0 0) rfl
    have r4 := box_cell R3.out 4 (.slice none 0 0) rfl
    have z := fun k => box_fz R3.out k
    have z0 := z 0; have z1 := z 1; have z2 := z 2; have z3 := z 3; have z4 := z 4
    have hlr := lt_of_block R3.out
    obtain ⟨P5, O5⟩ := put5 R3.out (.int .i64 p.entry) (.int .i64 p.mmin) (.int .i64 p.mmax) (.slice sa p.st.length sc) (.slice wa p.wn.length wc)
    have S5 := Lib.hid (own_ch S3.out O5 (own_ne S3.out (by have := LB.out; omega)))
    have W5 := Lib.hid (own_ch W3.out O5 (own_ne W3.out (by have := LB.out; omega)))
    have P5 := Lib.hid P5
    have FB := Lib.hid (show Below w.heap.size w _ from (BL.out.trans (C3.out.below (B := w.heap.size) BL.out.size (fun k e => by have := LB.out; omega))).trans (O5.below (B := w.heap.size) (Nat.le_of_lt hlr) (fun k e => by omega)))
    clear z O5 BL C3 R2 B2 S3 W3
    go_wp2_with fail
    clear c2 c3 c4 c5 c6 r0 r1 r2 r3 r4 z0 z1 z2 z3 z4 hlr
    generalize ((((w3.setCell ⟨w.heap.size, 0, none⟩ (.int .i64 p.entry)).setCell ⟨w.heap.size, 1, none⟩ (.int .i64 p.mmin)).setCell ⟨w.heap.size, 2, none⟩ (.int .i64 p.mmax)).setCell ⟨w.heap.size, 3, none⟩ (.slice sa p.st.length sc)).setCell ⟨w.heap.size, 4, none⟩ (.slice wa p.wn.length wc) = we at *
    have r0 := box_cell P5.out 0 (.int .i64 p.entry) rfl
    have r1 := box_cell P5.out 1 (.int .i64 p.mmin) rfl
    have r2 := box_cell P5.out 2 (.int .i64 p.mmax) rfl
    have r3 := box_cell P5.out 3 (.slice sa p.st.length sc) rfl
    have r4 := box_cell P5.out 4 (.slice wa p.wn.length wc) rfl
    refine bodyPost_ret (v := .tuple #[PlanP.val ⟨p, sa, sc, wa, wc⟩, .int .i64 0]) (by simp [results, Tryd.results21, go_sem, r0, r1, r2, r3, r4]) rfl ?_
    show OpenPost w (openR s) _ _
    rw [HO.out]
    exact ⟨⟨sa, sc, wa, wc, rfl, made_ok S5.out W5.out⟩, FB.out⟩
  | error n =>
    have hn := openR_err hO
    have AT := Lib.hid (attempt_no 48 (w.heap.size + 1) n w2 (fun V => Ch (fun k => k = w.heap.size + 1) w2 V) LB.out
      (fun _ => rfl) (fun W hW hlt => by
        have := readCert_any (w.heap.size + 1) s W (box_below B2.out hW) HS.out (HT2.out.below hW)
        rw [hO] at this
        refine this.mono fun e W' ⟨h1, h2⟩ => ⟨h1, ⟨h2.size, fun k hk hne => h2.block k hk hne⟩, (Ch.ofBelow hW).trans h2 (fun _ _ e => e)⟩))
    have HO := Lib.hid hO
    clear hO
    have n1 : (n != 0) = true := by simpa using hn
    clear hn
    go_wp2_with fail
    refine AT.out.mono ?_; rintro e w3 ⟨rfl, V, hc, rfl⟩
    have O3 := one_ch V w2.heap.size 0 (.int .i64 n)
    have C3 := Lib.hid (show Ch (fun k => k = w.heap.size + 1 ∨ k = w2.heap.size) w2 (V.setCell ⟨w2.heap.size, 0, none⟩ (.int .i64 n)) from (hc.mono (fun _ e => .inl e)).trans O3 (fun _ _ e => .inr e))
    have R3 := Lib.hid ((C3.out.block _ (lt_of_block R2.out) (by have := LB.out; omega)).trans R2.out)
    clear O3 hc AT
    generalize V.setCell ⟨w2.heap.size, 0, none⟩ (.int .i64 n) = w3 at *
    have r0 := box_cell R3.out 0 (.int .i64 0) rfl
    have r1 := box_cell R3.out 1 (.int .i64 0) rfl
    have r2 := box_cell R3.out 2 (.int .i64 0) rfl
    have r3 := box_cell R3.out 3 (.slice none 0 0) rfl
    have r4 := box_cell R3.out 4 (.slice none 0 0) rfl
    have z := fun k => box_fz R3.out k
    have z0 := z 0; have z1 := z 1; have z2 := z 2; have z3 := z 3; have z4 := z 4
    have hlr := lt_of_block R3.out
    obtain ⟨P5, O5⟩ := put5 R3.out (.int .i64 0) (.int .i64 0) (.int .i64 0) (.slice none 0 0) (.slice none 0 0)
    have P5 := Lib.hid P5
    have FB := Lib.hid (show Below w.heap.size w _ from (BL.out.trans (C3.out.below (B := w.heap.size) BL.out.size (fun k e => by have := LB.out; omega))).trans (O5.below (B := w.heap.size) (Nat.le_of_lt hlr) (fun k e => by omega)))
    clear z O5 BL C3 R2 B2
    go_wp2_with fail
    clear r0 r1 r2 r3 r4 z0 z1 z2 z3 z4 hlr
    generalize ((((w3.setCell ⟨w.heap.size, 0, none⟩ (.int .i64 0)).setCell ⟨w.heap.size, 1, none⟩ (.int .i64 0)).setCell ⟨w.heap.size, 2, none⟩ (.int .i64 0)).setCell ⟨w.heap.size, 3, none⟩ (.slice none 0 0)).setCell ⟨w.heap.size, 4, none⟩ (.slice none 0 0) = we at *
    have r0 := box_cell P5.out 0 (.int .i64 0) rfl
    have r1 := box_cell P5.out 1 (.int .i64 0) rfl
    have r2 := box_cell P5.out 2 (.int .i64 0) rfl
    have r3 := box_cell P5.out 3 (.slice none 0 0) rfl
    have r4 := box_cell P5.out 4 (.slice none 0 0) rfl
    refine bodyPost_ret (v := .tuple #[.agg #[.int .i64 0, .int .i64 0, .int .i64 0, .slice none 0 0, .slice none 0 0], .int .i64 n]) (by simp [results, Tryd.results21, go_sem, r0, r1, r2, r3, r4]) rfl ?_
    show OpenPost w (openR s) _ _
    rw [HO.out]
    exact ⟨rfl, FB.out⟩
end Go.Proofs.YtihohjgjklcnlaaDoor
