/-
  Decode.
-/
import Derived.Test.YtnmjcjkjdbkpnaaDoorRf
import Derived.Laws.Tables
import Derived.Laws.ResultCell
namespace Go.Proofs.YtnmjcjkjdbkpnaaDoor
open Go.RowKit Go.Shelf Fc
attribute [local go_sem] Oper.semAt_some
/-- What Decode leaves. -/
def DecPost (w : World) : Except Int Fact → Ending → World → Prop
  | .ok F, e, w' => e = .returned (.tuple #[factV F, .int .i64 0]) ∧ Below w.heap.size w w'
  | .error n, e, w' => e = .returned (.tuple #[factV (zeroF 0 0 0), .int .i64 n]) ∧ Below w.heap.size w w'
theorem row_ch (w : World) (b : Nat) (cs : Array Value) : Ch (fun k => k = b) w (w.setRow b cs) :=
  ⟨rfl, rfl, rfl, by simp, fun k _ hk => setRow_other w b k _ (fun e => hk e)⟩
theorem res_dec {us : Array Value} {V : World} {b : Nat} {G : Fact} {n : Int} (h2 : us.getD 2 undef = .pointer (some ⟨b, 0, none⟩)) (h3 : us.getD 3 undef = .int .i64 n) (h : V.heap[b]? = some (factObj G)) :
    (results Tryd.f22 us).run Tryd.prog V = .ok (.tuple #[factV G, .int .i64 n]) V := by
  rw [results_cell_tmp (p := 2) (u := 3) (ty := 23) rfl, h2, h3]
  simp only [asAddr, Sem.run_pure, Result.andThen_ok, run_loadFact h]
theorem fact_cells1 (F : Fact) : (factC F).all (·.oneCell') = true := by simp [Value.oneCell']
theorem wpList_store_fact {ops : Array Oper} {rest : List Oper} {o : Oper} {a : Act} {w : World} {Q : Exit → Act → World → Prop} (hgd : o.guard = none) (x y : Operand) (ho : o.op = .store 23 x y) (b : Nat) (F : Fact) (hx : a.eval x = .pointer (some ⟨b, 0, none⟩)) (hy : a.eval y = factV F)
    (old : Array Value) (hg : w.heap[b]? = some (.cells old 23)) (hold : old.size = 19)
    (h : wpList Tryd.prog ops Q rest (a.put o.dst undef) (w.setRow b (factC F))) : wpList Tryd.prog ops Q (o :: rest) a w :=
  wpList_store_row hgd 23 x y ho b (factC F) hx hy 23 old hg factInfo hold (fact_cells1 F) h
abbrev rd0 (s : ByteArray) : Obj := .cells #[.string s, .int .i64 0, .int .i64 0, .int .i64 0, .int .i64 0, .int .i64 0, .bool false, .int .i64 0, .int .i64 0, .int .i64 0, .int .i64 0, .int .i64 0, .int .i64 0, .int .i64 0, .int .i64 0, .int .i64 0, .int .i64 0, .int .i64 0, .int .i64 0, .int .i64 0, .string ⟨#[]⟩] 59
abbrev fc0 : Obj := .cells #[.int .i64 0, .int .i64 0, .int .i64 0, .int .i64 0, .bool false, .int .i64 0, .int .i64 0, .int .i64 0, .int .i64 0, .int .i64 0, .int .i64 0, .int .i64 0, .int .i64 0, .int .i64 0, .int .i64 0, .int .i64 0, .int .i64 0, .int .i64 0, .string ⟨#[]⟩] 23
set_option maxRecDepth 100000 in
set_option maxHeartbeats 4000000 in
theorem decode_any (s : ByteArray) (w : World) (hs : s.size ≤ maxLen) (ht : Tab w) : Calls Tryd.prog 22 #[.string s] w (DecPost w (decR s.data.toList)) := by
  have hmf : ∀ (fn : Fn) (first cap : Array Value) (w : World), (Instr.makeFunc fn first cap).run Tryd.prog w = .ok (.func fn first cap) w := fun _ _ _ _ => rfl
  have HT := Lib.hid ht
  have HS := Lib.hid hs
  clear ht hs
  have hb1 := below_new w fc0
  have hb2 := below_new (w.alloc fc0) (rd0 s)
  have R1 := heap_alloc_new w fc0
  have B2 := heap_alloc_new (w.alloc fc0) (rd0 s)
  have SZ := Lib.hid (show (w.alloc fc0).heap.size = w.heap.size + 1 by simp)
  rw [SZ.out] at B2
  have B2 := Lib.hid B2
  have R2 := Lib.hid (box_below R1 hb2)
  have BL := Lib.hid (below_step hb1 hb2)
  have HT2 := Lib.hid ((HT.out.below hb1).below hb2)
  clear hb1 hb2 R1 HT SZ
  go_enter Tryd.func22, Tryd.ntmps22
  go_upto_region 2 with (fail)
  dsimp only [fc0, rd0] at B2 R2 BL HT2
  generalize (w.alloc (.cells #[.int .i64 0, .int .i64 0, .int .i64 0, .int .i64 0, .bool false, .int .i64 0, .int .i64 0, .int .i64 0, .int .i64 0, .int .i64 0, .int .i64 0, .int .i64 0, .int .i64 0, .int .i64 0, .int .i64 0, .int .i64 0, .int .i64 0, .int .i64 0, .string ⟨#[]⟩] 23)).alloc (.cells #[.string s, .int .i64 0, .int .i64 0, .int .i64 0, .int .i64 0, .int .i64 0, .bool false, .int .i64 0, .int .i64 0, .int .i64 0, .int .i64 0, .int .i64 0, .int .i64 0, .int .i64 0, .int .i64 0, .int .i64 0, .int .i64 0, .int .i64 0, .int .i64 0, .int .i64 0, .string ⟨#[]⟩] 59) = w2 at *
  have LB := Lib.hid (lt_of_block B2.out)
  cases hO : decR s.data.toList with
  | ok F =>
    have AT := Lib.hid (attempt_yes 41 (w.heap.size + 1) w2 (fun V => Ch (fun k => k = w.heap.size + 1) w2 V ∧ ∃ a, V.heap[w.heap.size + 1]? = some (rdObj s a F)) LB.out
      (fun _ => rfl) (fun W hW hlt => by
        have := readFact_any (w.heap.size + 1) s W (box_below B2.out hW) HS.out (HT2.out.below hW)
        rw [hO] at this
        refine this.mono fun e W' ⟨h1, h2, a, h3⟩ => ⟨h1, ⟨h2.size, fun k hk hne => h2.block k hk hne⟩, (Ch.ofBelow hW).trans h2 (fun _ _ e => e), a, h3⟩))
    have HO := Lib.hid hO
    clear hO
    go_wp2_with fail
    refine AT.out.mono ?_; rintro e w3 ⟨rfl, V, ⟨hc, a, hbx⟩, rfl⟩
    have O3 := one_ch V w2.heap.size 0 (.int .i64 0)
    have C3 := Lib.hid (show Ch (fun k => k = w.heap.size + 1 ∨ k = w2.heap.size) w2 (V.setCell ⟨w2.heap.size, 0, none⟩ (.int .i64 0)) from (hc.mono (fun _ e => .inl e)).trans O3 (fun _ _ e => .inr e))
    have B3 := Lib.hid ((O3.block _ (lt_of_block hbx) (by have := LB.out; omega)).trans hbx)
    have R3 := Lib.hid ((C3.out.block _ (lt_of_block R2.out) (by have := LB.out; omega)).trans R2.out)
    clear O3 hc hbx AT
    generalize V.setCell ⟨w2.heap.size, 0, none⟩ (.int .i64 0) = w3 at *
    have P5 := Lib.hid (setRow_heap w3 w.heap.size _ (factC F) _ _ R3.out)
    have FB := Lib.hid (show Below w.heap.size w (w3.setRow w.heap.size (factC F)) from (BL.out.trans (C3.out.below (B := w.heap.size) BL.out.size (fun k e => by have := LB.out; omega))).trans ((row_ch w3 w.heap.size (factC F)).below (B := w.heap.size) (Nat.le_of_lt (lt_of_block R3.out)) (fun k e => by omega)))
    clear BL C3 R2 B2
    go_wp2_with (first | (refine wpList_load_rd rfl _ rfl _ rfl s a F B3.out ?_) | (refine wpList_store_fact rfl _ _ rfl w.heap.size F rfl rfl _ R3.out rfl ?_))
    refine bodyPost_ret (v := .tuple #[factV F, .int .i64 0]) (res_dec rfl rfl P5.out) rfl ?_
    show DecPost w (decR s.data.toList) _ _
    rw [HO.out]
    exact ⟨rfl, FB.out⟩
  | error n =>
    have hn : n ≠ 0 := by rcases dec_err hO with h | h <;> omega
    have AT := Lib.hid (attempt_no 41 (w.heap.size + 1) n w2 (fun V => Ch (fun k => k = w.heap.size + 1) w2 V) LB.out
      (fun _ => rfl) (fun W hW hlt => by
        have := readFact_any (w.heap.size + 1) s W (box_below B2.out hW) HS.out (HT2.out.below hW)
        rw [hO] at this
        refine this.mono fun e W' ⟨h1, h2⟩ => ⟨h1, ⟨h2.size, fun k hk hne => h2.block k hk hne⟩, (Ch.ofBelow hW).trans h2 (fun _ _ e => e)⟩))
    have HO := Lib.hid hO
    clear hO
    have n1 : (n != 0) = true := by simpa using hn
    clear hn
    go_wp2_with fail
    refine AT.out.mono ?_; rintro e w3 ⟨rfl, V, hc, rfl⟩
    have O3 := one_ch V w2.heap.size 0 (.int .i64 n)
    have C3 := Lib.hid (show Ch (fun k => k = w.heap.size + 1 ∨ k = w2.heap.size) w2 (V.setCell ⟨w2.heap.size, 0, none⟩ (.int .i64 n)) from (hc.mono (fun _ e => .inl e)).trans O3 (fun _ _ e => .inr e))
    have R3 := Lib.hid ((C3.out.block _ (lt_of_block R2.out) (by have := LB.out; omega)).trans R2.out)
    clear O3 hc AT
    generalize V.setCell ⟨w2.heap.size, 0, none⟩ (.int .i64 n) = w3 at *
    have P5 := Lib.hid (setRow_heap w3 w.heap.size _ (factC (zeroF 0 0 0)) _ _ R3.out)
    have FB := Lib.hid (show Below w.heap.size w (w3.setRow w.heap.size (factC (zeroF 0 0 0))) from (BL.out.trans (C3.out.below (B := w.heap.size) BL.out.size (fun k e => by have := LB.out; omega))).trans ((row_ch w3 w.heap.size (factC (zeroF 0 0 0))).below (B := w.heap.size) (Nat.le_of_lt (lt_of_block R3.out)) (fun k e => by omega)))
    clear BL C3 R2 B2
    go_wp2_with (refine wpList_store_fact rfl _ _ rfl w.heap.size (zeroF 0 0 0) rfl rfl _ R3.out rfl ?_)
    refine bodyPost_ret (v := .tuple #[factV (zeroF 0 0 0), .int .i64 n]) (res_dec rfl rfl P5.out) rfl ?_
    show DecPost w (decR s.data.toList) _ _
    rw [HO.out]
    exact ⟨rfl, FB.out⟩
end Go.Proofs.YtnmjcjkjdbkpnaaDoor
