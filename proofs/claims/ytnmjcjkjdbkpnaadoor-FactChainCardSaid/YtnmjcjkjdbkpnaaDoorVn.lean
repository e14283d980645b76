/-
  validNumbers.
-/
import Derived.Test.YtnmjcjkjdbkpnaaDoorQr
namespace Go.Proofs.YtnmjcjkjdbkpnaaDoor
open Go.RowKit Go.Shelf Fc
attribute [local go_sem] Oper.semAt_some
theorem wide_fn (f : FuncId) : Fence.wide.fn f = True := rfl
attribute [local go_sem] wide_fn
/-- The numbers, one after the other, each taken away once it is looked at. -/
def chkL (k : Int) : List Nat → Fact → Bool
  | [], _ => true
  | x :: l, F => within (get F x) (spanS k x).1 (spanS k x).2 && chkL k l (set F 0 x)
theorem chk_snoc (k : Int) (x : Nat) : ∀ (l : List Nat) (F : Fact), chkL k (l ++ [x]) F = (chkL k l F && within (get (zeroL F l) x) (spanS k x).1 (spanS k x).2)
  | [], F => by simp [chkL, zeroL]
  | y :: l, F => by
    rw [List.cons_append, chkL, chkL, chk_snoc k x l (set F 0 y), Bool.and_assoc]; rfl
theorem chk_prefix {k : Int} {l r : List Nat} {F : Fact} (h : chkL k l F = false) (hp : l <+: r) : chkL k r F = false := by
  obtain ⟨m, rfl⟩ := hp
  induction l generalizing F with
  | nil => cases h
  | cons x l ih =>
    rw [List.cons_append]
    rw [chkL] at h ⊢
    cases hw : within (get F x) (spanS k x).1 (spanS k x).2 with
    | false => rfl
    | true => rw [hw, Bool.true_and] at h; rw [Bool.true_and]; exact ih h
theorem chk_all {k : Int} : ∀ (l : List Nat) (F : Fact), l.Nodup → (∀ x ∈ l, x < 14) → chkL k l F = l.all fun x => within (get F x) (spanS k x).1 (spanS k x).2
  | [], _, _, _ => rfl
  | x :: l, F, hn, h14 => by
    obtain ⟨hx, hn⟩ := List.nodup_cons.1 hn
    rw [chkL, List.all_cons, chk_all l _ hn (fun y hy => h14 y (List.mem_cons_of_mem _ hy))]
    congr 1
    rw [Bool.eq_iff_iff, List.all_eq_true, List.all_eq_true]
    have he : ∀ y ∈ l, get (set F 0 x) y = get F y := fun y hy => by
      rw [get_set F 0 x y (h14 x (by simp)) (h14 y (List.mem_cons_of_mem _ hy)), if_neg (fun e => hx (by rw [← e]; exact hy))]
    exact ⟨fun h y hy => by rw [← he y hy]; exact h y hy, fun h y hy => by rw [he y hy]; exact h y hy⟩
theorem chk_spans (F : Fact) : chkL F.k (fieldsL F.k) F = spansOK F := chk_all _ _ (fields_nodup _) fields_lt
theorem zero_snoc (F : Fact) (l : List Nat) (x : Nat) : zeroL F (l ++ [x]) = set (zeroL F l) 0 x := by unfold zeroL; rw [List.foldl_append]; rfl
abbrev boolObj (b : Bool) : Obj := .cells #[.bool b] 4
/-- Between two rounds. -/
structure VI (w : World) (F : Fact) (pre : List Nat) (W : World) : Prop where
  fb : W.heap[w.heap.size]? = some (factObj (zeroL F pre))
  rb : W.heap[w.heap.size + 1]? = some (boolObj false)
  bel : Below w.heap.size w W
  yes : chkL F.k pre F = true
/-- A round has found a number that is not right. -/
structure VX (w : World) (F : Fact) (pre : List Nat) (W : World) : Prop where
  rb : W.heap[w.heap.size + 1]? = some (boolObj false)
  bel : Below w.heap.size w W
  no : chkL F.k pre F = false
theorem grown_cells {A B : World} {row : Option Nat} (hg : A.grownBy B row) (hr : ∀ r, row = some r → ∃ o : Obj, A.heap[r]? = some o ∧ o.isCells = false) {k : Nat} {o : Obj} (h : A.heap[k]? = some o) (hc : o.isCells = true) : B.heap[k]? = some o :=
  (hg.block k (lt_of_block h) (fun e => by
    obtain ⟨o', h1, h2⟩ := hr k e.symm
    rw [h] at h1; injection h1 with h1; rw [← h1, hc] at h2; cases h2)).trans h
theorem VI.own {w : World} {F : Fact} {B : Nat} (hB : w.heap.size ≤ B) : OwnFrom B (VI w F) := fun _ _ _ _ hs hg hr =>
  ⟨grown_cells hg (fun r e => (hr r e).2) hs.fb rfl, grown_cells hg (fun r e => (hr r e).2) hs.rb rfl, hs.bel.grown hg hs.bel.size (fun k e => Nat.le_trans hB (hr k e).1), hs.yes⟩
theorem VX.own {w : World} {F : Fact} {B : Nat} (hB : w.heap.size ≤ B) (c : Code) : OwnFrom B (fun pre W => c = .ret ∧ VX w F pre W) := fun _ _ _ _ hs hg hr =>
  ⟨hs.1, grown_cells hg (fun r e => (hr r e).2) hs.2.rb rfl, hs.2.bel.grown hg hs.2.bel.size (fun k e => Nat.le_trans hB (hr k e).1), hs.2.no⟩
def VnPost (F : Fact) (w : World) (e : Ending) (w' : World) : Prop := e = .returned (.bool (numsOK F)) ∧ Below w.heap.size w w'
theorem vn_end {w V : World} {F : Fact} {b : Bool} {D : Nat} {us : Array Value} (h2 : us[2]? = some (.pointer (some ⟨w.heap.size + 1, 0, none⟩))) (hrb : V.heap[w.heap.size + 1]? = some (boolObj b)) (hb : numsOK F = b) (hbe : Below w.heap.size w V) (hD : w.heap.size ≤ D) (hK : V.heap[D]? = some (.deferred (some []))) :
    LeavesInM Fence.wide 6 Tryd.prog Tryd.f33 us (VnPost F w) [] FrameMode.returning (V.putObj D (.deferred none)) := by
  have hk := (KeepsOthers.refl V).size
  have b0 := box_cell (w := V.putObj D (.deferred none)) ((World.putObj_heap_other (fun e => by subst e; rw [hrb] at hK; cases hK)).trans hrb) 0 (.bool b) rfl
  refine ⟨.bool b, by simp [results, Tryd.results33, go_sem, h2, b0], ?_⟩
  exact ⟨by rw [hb], hbe.trans (belowK_b (w := w) (Nat.le_refl _) V D _ _ hD hK rfl rfl)⟩
set_option maxRecDepth 100000 in
set_option maxHeartbeats 8000000 in
theorem validNumbers_any (F : Fact) (w : World) (hT : Tab w) : Calls Tryd.prog 33 #[factV F] w (VnPost F w) := by
  obtain ⟨W2, hW2⟩ : ∃ V, (w.alloc (factObj F)).alloc (boolObj false) = V := ⟨_, rfl⟩
  have hb2 : Below w.heap.size w W2 := by rw [← hW2]; exact below_step (below_new _ _) (below_new _ _)
  have VI2 := Lib.hid (show VI w F [] W2 from by
    rw [← hW2]
    refine ⟨box_below (heap_alloc_new _ _) (below_new _ _), ?_, below_step (below_new _ _) (below_new _ _), rfl⟩
    have := heap_alloc_new (w.alloc (factObj F)) (boolObj false)
    rwa [World.size_alloc] at this)
  have HS2 := Lib.hid (show w.heap.size + 2 = W2.heap.size by rw [← hW2]; simp)
  have HT2 := Lib.hid (hT.below hb2)
  have HTn := Lib.hid hT.1
  have HW2 := Lib.hid hW2
  clear hT hb2 hW2
  refine (callsIn_wide (n := 6)).1 ?_
  refine callsIn_of_wp_marks Tryd.func33 rfl trivial ?_ rfl
  simp only [Tryd.ntmps33, List.size_toArray, List.length_cons, List.length_nil, Nat.reduceAdd, Nat.reduceSub, Array.replicate_succ, Array.replicate_zero, List.push_toArray, List.append_toArray, List.nil_append, List.cons_append]
  gi_wp2_with fail
  rw [HW2.out]
  refine (callsIn_wide.2 (numbers_any ⟨w.heap.size, 0, none⟩ W2)).mono ?_; rintro e w5 ⟨rfl, rfl⟩
  obtain ⟨W3, hW3⟩ : ∃ V, W2.alloc (.cells #[.pointer (some ⟨w.heap.size, 0, none⟩)] 72) = V := ⟨_, rfl⟩
  have hb3 : Below W2.heap.size W2 W3 := by rw [← hW3]; exact below_new _ _
  have VI3 := Lib.hid (show VI w F [] W3 from ⟨box_below VI2.out.fb hb3, box_below VI2.out.rb hb3, below_step VI2.out.bel hb3, rfl⟩)
  have HS3 := Lib.hid (show w.heap.size + 3 = W3.heap.size by rw [← hW3]; simp; have := HS2.out; omega)
  have HTo := Lib.hid (nums_told (fun k => k = w.heap.size ∨ k = w.heap.size + 1) 5 (by omega) W2.heap.size w.heap.size F.k W3 (by rw [← hW3]; exact heap_alloc_new _ _) (box_cell VI3.out.fb 0 _ rfl) (HT2.out.below hb3)
    (fun e => by have := HS2.out; omega) (fun e => by have := HTn.out; omega) (fun i e => by have := HS3.out; omega))
  rw [hW3]
  clear hW3 hb3 VI2 HT2 HW2
  gi_wp2_with fail
  refine wpIn_rangeFunc_told rfl (by omega) (gf := 57) (lb := #[.pointer (some ⟨W2.heap.size, 0, none⟩)]) rfl trivial (enters_of Tryd.func57 (by kernel_rfl) rfl)
    HTo.out KS.trans (fun W l r o' _ h => KS.putLoop _ W l r o' h) (Below.refl _ _) (fun _ => rfl) (VI w F) (fun c pre W => c = .ret ∧ VX w F pre W) (VI.own (by have := HS3.out; omega)) (fun c => VX.own (by have := HS3.out; omega) c) (fun _ _ _ _ h _ _ => h) VI3.out
    (fun x a' W => ∃ b, w.heap.size + 1 < b ∧ a' = { tmps := #[factV F, .pointer (some ⟨w.heap.size, 0, none⟩), .pointer (some ⟨w.heap.size + 1, 0, none⟩), .pointer (some ⟨w.heap.size, cellOf x, none⟩), .pointer (some ⟨b, 0, none⟩), .func (.func 57) #[] #[.pointer (some ⟨W2.heap.size, 0, none⟩)], .pointer (some ⟨w.heap.size, cellOf x, none⟩), spanV (spanS F.k x), undef, undef, undef, undef, undef, undef, undef, undef, undef, undef, undef, undef, undef, undef, undef, undef, undef, undef, undef, undef, undef, undef, undef, undef], defers := [] } ∧ W.heap[b]? = some (spanObj (spanS F.k x))) ?hAx ?assign ?body ?done ?stop
  case hAx =>
    rintro x a' V l o o' ⟨b, hlb, rfl, hb⟩ hl ho hc
    refine ⟨b, hlb, rfl, (World.putObj_heap_other (fun e => ?_)).trans hb⟩
    subst e; rw [hb] at ho; cases ho; cases hc
  case assign =>
    as_aux_lemma =>
      intro l pre x U K hI hE hK
      have hb := below_new U (spanObj (spanS F.k x))
      have hU : w.heap.size + 1 < U.heap.size := lt_of_block hI.rb
      have HKf := Lib.hid (hK _ (U.alloc (spanObj (spanS F.k x))) (KeepsFrom.of_grownBy (grown_of_below hb) (fun j e => by cases e)) (KS.ofBelow hb) ⟨box_below hI.fb hb, box_below hI.rb hb, hI.bel.trans (hb.mono hI.bel.size), hI.yes⟩ hE ⟨U.heap.size, hU, rfl, heap_alloc_new _ _⟩)
      clear hK
      unfold numEnc
      generalize spanS F.k x = s at *
      obtain ⟨s0, s1⟩ := s
      dsimp only [spanObj, spanV] at HKf
      gi_wp2
      exact HKf.out
  case body =>
    rintro l pre x a' W hI hE ⟨b, hlb, rfl, hsb⟩ hlen
    have hx := fields_lt x hE
    have HI := Lib.hid hI
    have f0 := fact_cell hI.fb hx
    have z0 := box_fz hI.fb (cellOf x)
    have HCh := Lib.hid (chk_snoc F.k x pre F)
    have HZ := Lib.hid (zero_snoc F pre x)
    have HPut := Lib.hid (fun (V : World) (hv : V.heap[w.heap.size]? = some (factObj (zeroL F pre))) => fact_put hv hx 0)
    have r0 := box_cell hI.rb 0 (.bool false) rfl
    have rz0 := box_fz hI.rb 0
    have hrl := lt_of_block hI.rb
    have hfl := lt_of_block hI.fb
    generalize get (zeroL F pre) x = g at *
    generalize spanS F.k x = s at *
    obtain ⟨s0, s1⟩ := s
    have k0 := box_cell hsb 0 (.int .i64 s0) rfl
    have k1 := box_cell hsb 1 (.int .i64 s1) rfl
    have HWi := Lib.hid (fun v => within_any g s0 s1 v)
    generalize cellOf x = ox at *
    clear hI hsb
    cases hw : within g s0 s1 with
    | false =>
      as_aux_lemma =>
        rw [hw] at HWi HCh
        clear hw
        gi_wp2_with fail
        refine wpIn_region_quiet_round l rfl (by kernel_rfl) (by kernel_rfl) (by kernel_rfl) ?_
        repeat (gi_big_quiet_step (first | (gi_at_call 31; refine CallsIn.quiet_of_same (callsIn_wide.2 (HWi.out _)))))
        refine wpQuietIn_nil ?_
        intro _ hw'
        obtain ⟨nq, hw''⟩ := hw'
        subst hw''
        gi_wp2_with fail
        have hks := (KeepsOthers.setCell (W.drewN nq) ⟨w.heap.size + 1, 0, none⟩ (.bool false)).from W3.heap.size
        have hrb := block_set (show (W.drewN nq).heap[w.heap.size + 1]? = _ from HI.out.rb) (o := 0) (.bool false)
        have hbe := (below_drewN HI.out.bel nq).setCell (Nat.le_succ w.heap.size) (.bool false) (p := ⟨w.heap.size + 1, 0, none⟩)
        exact ⟨⟨hks.size, hks.same⟩, rfl, hrb, hbe, by rw [HCh.out, Bool.and_false]⟩
    | true =>
      as_aux_lemma =>
        rw [hw] at HWi HCh
        clear hw
        gi_wp2_with fail
        refine wpIn_region_quiet_round l rfl (by kernel_rfl) (by kernel_rfl) (by kernel_rfl) ?_
        repeat (gi_big_quiet_step (first | (gi_at_call 31; refine CallsIn.quiet_of_same (callsIn_wide.2 (HWi.out _)))))
        refine wpQuietIn_nil ?_
        intro _ hw'
        obtain ⟨nq, hw''⟩ := hw'
        subst hw''
        gi_wp2_with fail
        have hks := (KeepsOthers.setCell (W.drewN nq) ⟨w.heap.size, ox, none⟩ (.int .i64 0)).from W3.heap.size
        have hfb := HPut.out (W.drewN nq) HI.out.fb
        have hC := one_ch (W.drewN nq) w.heap.size ox (.int .i64 0)
        have hrb := (hC.block (w.heap.size + 1) hrl (by omega)).trans HI.out.rb
        have hbe := (below_drewN HI.out.bel nq).setCell (Nat.le_refl w.heap.size) (.int .i64 0) (p := ⟨w.heap.size, ox, none⟩)
        refine ⟨⟨hks.size, hks.same⟩, ⟨hks.size, fun k o hn hk _ => (hC.block k (lt_of_block hk) (fun e => hn (.inl e))).trans hk⟩, by rw [HZ.out]; exact hfb, hrb, hbe, ?_⟩
        rw [HCh.out, Bool.and_true]; exact HI.out.yes
  case done =>
    as_aux_lemma =>
      rintro D ys W hD rfl hI hK
      have HI := Lib.hid hI; have HK := Lib.hid hK
      have hn0 : numsOK F = decide (zeroL F (fieldsL F.k) = bare (zeroL F (fieldsL F.k))) := by
        unfold numsOK; rw [← chk_spans, hI.yes, Bool.true_and]
        have hz := zero_k (fieldsL F.k) F
        have : bare (zeroL F (fieldsL F.k)) = bare F := by unfold bare; rw [hz.1, hz.2.1, hz.2.2.1, hz.2.2.2.1, hz.2.2.2.2]
        rw [this]
      have hfb := hI.fb
      have r0 := box_cell hI.rb 0 (.bool false) rfl
      have rz0 := box_fz hI.rb 0
      have hrl := lt_of_block hI.rb
      clear hI hK
      generalize zeroL F (fieldsL F.k) = Z at *
      obtain ⟨B, hB, hEq⟩ : ∃ B, numsOK F = B ∧ ∀ V, (Go.binOp .eql 23 (factV Z) (factV (bare Z))).run Tryd.prog V = .ok (.bool B) V := ⟨_, rfl, fun V => by rw [hn0]; exact run_factEq Z (bare Z) V⟩
      have HBn := Lib.hid hB
      clear hB hn0
      obtain ⟨zk, zid, zv, zd, zgone, zti, zun, zw, zot, zlo, zpr, ztl, zch, zst, zrc, zrv, zva, zpa, ztx⟩ := Z
      dsimp only [factV, bare] at hEq
      have f0 := box_cell hfb 0 (.int .i64 zk) rfl
      have f1 := box_cell hfb 1 (.int .i64 zid) rfl
      have f2 := box_cell hfb 2 (.int .i64 zv) rfl
      have f3 := box_cell hfb 3 (.int .i64 zd) rfl
      have f4 := box_cell hfb 4 (.bool zgone) rfl
      have f5 := box_cell hfb 5 (.int .i64 zti) rfl
      have f6 := box_cell hfb 6 (.int .i64 zun) rfl
      have f7 := box_cell hfb 7 (.int .i64 zw) rfl
      have f8 := box_cell hfb 8 (.int .i64 zot) rfl
      have f9 := box_cell hfb 9 (.int .i64 zlo) rfl
      have f10 := box_cell hfb 10 (.int .i64 zpr) rfl
      have f11 := box_cell hfb 11 (.int .i64 ztl) rfl
      have f12 := box_cell hfb 12 (.int .i64 zch) rfl
      have f13 := box_cell hfb 13 (.int .i64 zst) rfl
      have f14 := box_cell hfb 14 (.int .i64 zrc) rfl
      have f15 := box_cell hfb 15 (.int .i64 zrv) rfl
      have f16 := box_cell hfb 16 (.int .i64 zva) rfl
      have f17 := box_cell hfb 17 (.int .i64 zpa) rfl
      have f18 := box_cell hfb 18 (.string ztx) rfl
      have HFb := Lib.hid hfb
      clear hfb
      gi_wp2_with (refine wpListIn_load_fact rfl _ rfl _ rfl ⟨zk, zid, zv, zd, zgone, zti, zun, zw, zot, zlo, zpr, ztl, zch, zst, zrc, zrv, zva, zpa, ztx⟩ HFb.out ?_)
      refine ⟨by simp, .inl ⟨_, _, rfl, run_takeDeferred ((KeepsOthers.setCell W ⟨w.heap.size + 1, 0, none⟩ (.bool B)).same D _ HK.out rfl), ?_⟩⟩
      exact vn_end rfl (block_set HI.out.rb (o := 0) (.bool B)) HBn.out (HI.out.bel.setCell (Nat.le_succ _) _) (by have := HS3.out; omega) ((KeepsOthers.setCell W ⟨w.heap.size + 1, 0, none⟩ (.bool B)).same D _ HK.out rfl)
  case stop =>
    as_aux_lemma =>
      rintro D cd pre W hD hpre ⟨rfl, hX⟩ hK
      have HX := Lib.hid hX; have HK := Lib.hid hK
      have r0 := box_cell hX.rb 0 (.bool false) rfl
      have HN := Lib.hid (show numsOK F = false from by unfold numsOK; rw [← chk_spans, chk_prefix hX.no hpre]; rfl)
      clear hX hK
      gi_wp2_with fail
      refine ⟨by simp, .inl ⟨_, _, rfl, run_takeDeferred HK.out, ?_⟩⟩
      exact vn_end rfl HX.out.rb HN.out HX.out.bel (by have := HS3.out; omega) HK.out
end Go.Proofs.YtnmjcjkjdbkpnaaDoor
