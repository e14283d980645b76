/-
  isSafe and margin. Written by tools/l09_margin.py.
  Slack.
-/
import Derived.Test.YtihohjgjklcnlaaDoorQCe
import Derived.Test.YtihohjgjklcnlaaDoorQBb
import Derived.Lib.MinMax
namespace Go.Proofs.YtihohjgjklcnlaaDoor.Pl
/-- How much of a window's limit is left in its own scenario. -/
def margin (p : Plan) (w : Win) : Int := w.lim - ((nth (run p (widest p w)).V w.t).start - (nth (run p (widest p w)).V w.f).fin)
theorem never_len {p : Plan} (h : SafeC p) {s : Scen} (hp : Poss p s) : (run p s).V.length = p.st.length := by
  have h0 := safe_never h hp
  rcases ended (s := s) hp.v with ⟨-, -, h1, -⟩ | ⟨j, h1, -, -, -, -⟩ | ⟨j, k, -, h1, -, -, -, -⟩
  · exact h1.len
  · rw [h0] at h1; cases h1
  · rw [h0] at h1; cases h1
theorem win_poss {p : Plan} (hv : Valid p) {w : Win} (hw : w ∈ p.wn) : Poss p (widest p w) := crit_poss hv _ (List.mem_cons_of_mem _ (List.mem_append_right _ (List.mem_map_of_mem hw)))
end Go.Proofs.YtihohjgjklcnlaaDoor.Pl
namespace Go.Proofs.YtihohjgjklcnlaaDoor
open Go.RowKit Go.Shelf
attribute [local go_sem] Oper.semAt_some
set_option maxRecDepth 100000 in
set_option maxHeartbeats 1000000 in
/-- isSafe: Check's second limb. -/
theorem isSafe_any (q : PlanP) (w : World) (h : q.ok w) : Calls Tryd.prog 43 #[q.val] w fun e w' => e = .returned (.bool (Pl.checkR q.p).2) ∧ Below w.heap.size w w' := by
  have hb1 := below_new w (planObj q)
  have HC := Lib.hid (Check_any q (w.alloc (planObj q)) (h.below hb1))
  have HB := Lib.hid hb1
  have HK := Lib.hid (rfl : (Pl.checkR q.p) = Pl.checkR q.p)
  clear h hb1
  obtain ⟨⟨en, mi, ma, st, wn⟩, sa, sc, wa, wc⟩ := q
  go_enter Tryd.func43, Tryd.ntmps43
  go_wp2_with fail
  refine HC.out.mono ?_; rintro e w1 ⟨r, hr, rfl, ok, g1⟩
  unfold checkV
  generalize hR : Pl.checkR ⟨en, mi, ma, st, wn⟩ = R at *
  have HR := Lib.hid hR; clear hR
  have hb2 := below_step HB.out g1
  clear g1 ok HB HC HK
  obtain ⟨⟨du, mv, de, tl, at0⟩, da, dc, mb, mc⟩ := r
  go_wp2_with fail
  go_ret
  exact ⟨by rw [HR.out]; rfl, below_step hb2 (below_new _ _)⟩
theorem run_ends (q : PlanP) (r : ScenP) (w : World) (h : q.ok w) (hr : r.ok w) :
    Calls Tryd.prog 14 #[q.val, r.val] w fun e w' => ∃ a c, e = .returned (.tuple #[.slice a (Pl.answer q.p r.s).1.V.length c, .agg #[.int .i64 (Pl.answer q.p r.s).1.kind, .int .i64 (Pl.answer q.p r.s).1.num], .int .i64 (Pl.answer q.p r.s).2]) ∧ VsA w' a c (Pl.answer q.p r.s).1.V ∧ Below w.heap.size w w' ∧ (∀ x, a = some x → w.heap.size ≤ x.block) := by
  refine (Run_any q r w h hr).mono fun e w' ⟨a, c, h1, h2, h3⟩ => ?_
  obtain ⟨a', c', e', h4, h5⟩ := h2.arg visit_len
  injection e' with e1 _ e2
  subst e1; subst e2
  exact ⟨_, _, h1, h4, h3, fun x hx => (h2.lt _ (h5 x hx)).1⟩
theorem vs_set {w : World} {a : Option Addr} {c m : Nat} {V : List Pl.Visit} {y0 y1 : Value} (h : VsA w a c V) (hm : ∀ x, a = some x → x.block ≠ m) : VsA ((w.setCell ⟨m, 0, none⟩ y0).setCell ⟨m, 1, none⟩ y1) a c V :=
  h.ch (S := fun k => k = m) ⟨rfl, rfl, rfl, by simp [World.setCell], fun b _ hb => (Below.heap_setCell _ _ _ _ hb).trans (Below.heap_setCell _ _ _ _ hb)⟩ hm

set_option maxRecDepth 100000 in
set_option maxHeartbeats 4000000 in
theorem margin_any (q : PlanP) (x : Pl.Win) (w : World) (h : q.ok w) (hn : q.p.st.length ≤ 8) (hv : Pl.Valid q.p) (hs : Pl.SafeC q.p) (hx : x ∈ q.p.wn) : Calls Tryd.prog 44 #[q.val, winV x] w fun e w' => e = .returned (.int .i64 (Pl.margin q.p x)) ∧ Below w.heap.size w w' := by
  have hb2 := below_step (below_new w (planObj q)) (below_new _ (winObj x))
  have PB := Lib.hid (show ((w.alloc (planObj q)).alloc (winObj x)).heap[w.heap.size]? = some (planObj q) from box_below (heap_alloc_new _ _) (below_new _ _))
  have XB := Lib.hid (show ((w.alloc (planObj q)).alloc (winObj x)).heap[w.heap.size + 1]? = some (winObj x) by
    have := heap_alloc_new (w.alloc (planObj q)) (winObj x)
    rwa [World.size_alloc] at this)
  have HB := Lib.hid hb2
  have HQ := Lib.hid (h.below hb2)
  have HP := Pl.win_poss hv hx
  have HO := hv.wn x hx
  have hlen := Pl.never_len hs HP
  have hbd := fun k (hk : k < (Pl.run q.p (Pl.widest q.p x)).V.length) => Pl.ended_bd HP (Pl.ended hv) hk
  have HA := Lib.hid (answer_of HP)
  have HL := Lib.hid hlen; have HBD := Lib.hid hbd
  have HX := Lib.hid (show (-1000000 ≤ x.lim ∧ x.lim ≤ 1000000) from by have := HO.l; omega)
  have HM := Lib.hid (rfl : Pl.margin q.p x = Pl.margin q.p x)
  have HN := Lib.hid hn
  have o1 := HO.f; have o2 := HO.ft; have o3 := HO.t
  clear h hb2 hx hv hs HP hlen hbd hn
  obtain ⟨⟨en, mi, ma, st, wn⟩, sa, sc, wa, wc⟩ := q
  obtain ⟨xf, xt, xl⟩ := x
  simp only at o1 o2 o3 HO
  obtain ⟨f, rfl⟩ := Int.eq_ofNat_of_zero_le o1
  obtain ⟨b, rfl⟩ := Int.eq_ofNat_of_zero_le (show 0 ≤ xt by omega)
  have HOk := Lib.hid HO; clear HO
  have HF := Lib.hid (show f < st.length ∧ b < st.length by omega)
  dsimp only [planObj, winObj] at PB XB HB HQ
  go_enter Tryd.func44, Tryd.ntmps44
  go_upto_region 1 with (fail)
  generalize (w.alloc (.cells #[.int .i64 en, .int .i64 mi, .int .i64 ma, .slice sa st.length sc, .slice wa wn.length wc] 28)).alloc (.cells #[.int .i64 (f : Int), .int .i64 (b : Int), .int .i64 xl] 49) = w2 at *
  obtain ⟨n1, hn1⟩ : ∃ n, w.heap.size = n := ⟨_, rfl⟩
  obtain ⟨n2, hn2⟩ : ∃ n, w.heap.size + 1 = n := ⟨_, rfl⟩
  rw [hn2] at XB
  rw [hn1] at PB
  rw [hn2]
  rw [hn1]
  clear o1 o2 o3
  have HS0 : Hid ((w2.drew).cell? ⟨n1, 0, none⟩ = some (.int .i64 en) ∧ (w2.drew).cell? ⟨n1, 1, none⟩ = some (.int .i64 mi) ∧ (w2.drew).cell? ⟨n1, 2, none⟩ = some (.int .i64 ma) ∧ (w2.drew).cell? ⟨n1, 3, none⟩ = some (.slice sa st.length sc) ∧ (w2.drew).cell? ⟨n1, 4, none⟩ = some (.slice wa wn.length wc) ∧ (w2.drew).cell? ⟨n2, 0, none⟩ = some (.int .i64 (f : Int)) ∧ (w2.drew).cell? ⟨n2, 1, none⟩ = some (.int .i64 (b : Int)) ∧ (w2.drew).cell? ⟨n2, 2, none⟩ = some (.int .i64 xl) ∧ Below w2.heap.size w2 (w2.drew)) := Lib.hid ⟨box_cell PB.out 0 _ rfl, box_cell PB.out 1 _ rfl, box_cell PB.out 2 _ rfl, box_cell PB.out 3 _ rfl, box_cell PB.out 4 _ rfl, box_cell XB.out 0 _ rfl, box_cell XB.out 1 _ rfl, box_cell XB.out 2 _ rfl, (Below.refl _ _).drew⟩
  have KEEP : Hid (∀ v v' : World, ((v).cell? ⟨n1, 0, none⟩ = some (.int .i64 en) ∧ (v).cell? ⟨n1, 1, none⟩ = some (.int .i64 mi) ∧ (v).cell? ⟨n1, 2, none⟩ = some (.int .i64 ma) ∧ (v).cell? ⟨n1, 3, none⟩ = some (.slice sa st.length sc) ∧ (v).cell? ⟨n1, 4, none⟩ = some (.slice wa wn.length wc) ∧ (v).cell? ⟨n2, 0, none⟩ = some (.int .i64 (f : Int)) ∧ (v).cell? ⟨n2, 1, none⟩ = some (.int .i64 (b : Int)) ∧ (v).cell? ⟨n2, 2, none⟩ = some (.int .i64 xl) ∧ Below w2.heap.size w2 (v)) → Below v.heap.size v v' → (v').cell? ⟨n1, 0, none⟩ = some (.int .i64 en) ∧ (v').cell? ⟨n1, 1, none⟩ = some (.int .i64 mi) ∧ (v').cell? ⟨n1, 2, none⟩ = some (.int .i64 ma) ∧ (v').cell? ⟨n1, 3, none⟩ = some (.slice sa st.length sc) ∧ (v').cell? ⟨n1, 4, none⟩ = some (.slice wa wn.length wc) ∧ (v').cell? ⟨n2, 0, none⟩ = some (.int .i64 (f : Int)) ∧ (v').cell? ⟨n2, 1, none⟩ = some (.int .i64 (b : Int)) ∧ (v').cell? ⟨n2, 2, none⟩ = some (.int .i64 xl) ∧ Below w2.heap.size w2 (v')) := Lib.hid (fun v v' ⟨h0, h1, h2, h3, h4, h5, h6, h7, hY⟩ hb => ⟨cell_below hb h0, cell_below hb h1, cell_below hb h2, cell_below hb h3, cell_below hb h4, cell_below hb h5, cell_below hb h6, cell_below hb h7, below_step hY hb⟩)
  have KEEPA : Hid (∀ v : World, ((v).cell? ⟨n1, 0, none⟩ = some (.int .i64 en) ∧ (v).cell? ⟨n1, 1, none⟩ = some (.int .i64 mi) ∧ (v).cell? ⟨n1, 2, none⟩ = some (.int .i64 ma) ∧ (v).cell? ⟨n1, 3, none⟩ = some (.slice sa st.length sc) ∧ (v).cell? ⟨n1, 4, none⟩ = some (.slice wa wn.length wc) ∧ (v).cell? ⟨n2, 0, none⟩ = some (.int .i64 (f : Int)) ∧ (v).cell? ⟨n2, 1, none⟩ = some (.int .i64 (b : Int)) ∧ (v).cell? ⟨n2, 2, none⟩ = some (.int .i64 xl) ∧ Below w2.heap.size w2 (v)) → ((v).alloc (.cells #[.int .i64 0, .int .i64 0] 38)).cell? ⟨n1, 0, none⟩ = some (.int .i64 en) ∧ ((v).alloc (.cells #[.int .i64 0, .int .i64 0] 38)).cell? ⟨n1, 1, none⟩ = some (.int .i64 mi) ∧ ((v).alloc (.cells #[.int .i64 0, .int .i64 0] 38)).cell? ⟨n1, 2, none⟩ = some (.int .i64 ma) ∧ ((v).alloc (.cells #[.int .i64 0, .int .i64 0] 38)).cell? ⟨n1, 3, none⟩ = some (.slice sa st.length sc) ∧ ((v).alloc (.cells #[.int .i64 0, .int .i64 0] 38)).cell? ⟨n1, 4, none⟩ = some (.slice wa wn.length wc) ∧ ((v).alloc (.cells #[.int .i64 0, .int .i64 0] 38)).cell? ⟨n2, 0, none⟩ = some (.int .i64 (f : Int)) ∧ ((v).alloc (.cells #[.int .i64 0, .int .i64 0] 38)).cell? ⟨n2, 1, none⟩ = some (.int .i64 (b : Int)) ∧ ((v).alloc (.cells #[.int .i64 0, .int .i64 0] 38)).cell? ⟨n2, 2, none⟩ = some (.int .i64 xl) ∧ Below w2.heap.size w2 ((v).alloc (.cells #[.int .i64 0, .int .i64 0] 38))) := Lib.hid (fun v h => KEEP.out _ _ h (below_new _ _))
  have KEEPD : Hid (∀ v : World, ((v.drew).cell? ⟨n1, 0, none⟩ = some (.int .i64 en) ∧ (v.drew).cell? ⟨n1, 1, none⟩ = some (.int .i64 mi) ∧ (v.drew).cell? ⟨n1, 2, none⟩ = some (.int .i64 ma) ∧ (v.drew).cell? ⟨n1, 3, none⟩ = some (.slice sa st.length sc) ∧ (v.drew).cell? ⟨n1, 4, none⟩ = some (.slice wa wn.length wc) ∧ (v.drew).cell? ⟨n2, 0, none⟩ = some (.int .i64 (f : Int)) ∧ (v.drew).cell? ⟨n2, 1, none⟩ = some (.int .i64 (b : Int)) ∧ (v.drew).cell? ⟨n2, 2, none⟩ = some (.int .i64 xl) ∧ Below w2.heap.size w2 (v.drew)) → (((v).alloc (.cells #[.int .i64 0, .int .i64 0] 38)).drew).cell? ⟨n1, 0, none⟩ = some (.int .i64 en) ∧ (((v).alloc (.cells #[.int .i64 0, .int .i64 0] 38)).drew).cell? ⟨n1, 1, none⟩ = some (.int .i64 mi) ∧ (((v).alloc (.cells #[.int .i64 0, .int .i64 0] 38)).drew).cell? ⟨n1, 2, none⟩ = some (.int .i64 ma) ∧ (((v).alloc (.cells #[.int .i64 0, .int .i64 0] 38)).drew).cell? ⟨n1, 3, none⟩ = some (.slice sa st.length sc) ∧ (((v).alloc (.cells #[.int .i64 0, .int .i64 0] 38)).drew).cell? ⟨n1, 4, none⟩ = some (.slice wa wn.length wc) ∧ (((v).alloc (.cells #[.int .i64 0, .int .i64 0] 38)).drew).cell? ⟨n2, 0, none⟩ = some (.int .i64 (f : Int)) ∧ (((v).alloc (.cells #[.int .i64 0, .int .i64 0] 38)).drew).cell? ⟨n2, 1, none⟩ = some (.int .i64 (b : Int)) ∧ (((v).alloc (.cells #[.int .i64 0, .int .i64 0] 38)).drew).cell? ⟨n2, 2, none⟩ = some (.int .i64 xl) ∧ Below w2.heap.size w2 (((v).alloc (.cells #[.int .i64 0, .int .i64 0] 38)).drew)) := Lib.hid (fun v h => KEEP.out v.drew _ h ⟨rfl, rfl, rfl, (below_new v _).size, (below_new v _).block⟩)
  have HLT := Lib.hid (show n1 < w2.heap.size ∧ n2 < w2.heap.size from ⟨lt_of_block PB.out, lt_of_block XB.out⟩)
  have SET : Hid (∀ (v : World) (m : Nat) (y0 y1 : Value), w2.heap.size ≤ m → ((v).cell? ⟨n1, 0, none⟩ = some (.int .i64 en) ∧ (v).cell? ⟨n1, 1, none⟩ = some (.int .i64 mi) ∧ (v).cell? ⟨n1, 2, none⟩ = some (.int .i64 ma) ∧ (v).cell? ⟨n1, 3, none⟩ = some (.slice sa st.length sc) ∧ (v).cell? ⟨n1, 4, none⟩ = some (.slice wa wn.length wc) ∧ (v).cell? ⟨n2, 0, none⟩ = some (.int .i64 (f : Int)) ∧ (v).cell? ⟨n2, 1, none⟩ = some (.int .i64 (b : Int)) ∧ (v).cell? ⟨n2, 2, none⟩ = some (.int .i64 xl) ∧ Below w2.heap.size w2 (v)) → ((((v).setCell ⟨m, 0, none⟩ y0).setCell ⟨m, 1, none⟩ y1)).cell? ⟨n1, 0, none⟩ = some (.int .i64 en) ∧ ((((v).setCell ⟨m, 0, none⟩ y0).setCell ⟨m, 1, none⟩ y1)).cell? ⟨n1, 1, none⟩ = some (.int .i64 mi) ∧ ((((v).setCell ⟨m, 0, none⟩ y0).setCell ⟨m, 1, none⟩ y1)).cell? ⟨n1, 2, none⟩ = some (.int .i64 ma) ∧ ((((v).setCell ⟨m, 0, none⟩ y0).setCell ⟨m, 1, none⟩ y1)).cell? ⟨n1, 3, none⟩ = some (.slice sa st.length sc) ∧ ((((v).setCell ⟨m, 0, none⟩ y0).setCell ⟨m, 1, none⟩ y1)).cell? ⟨n1, 4, none⟩ = some (.slice wa wn.length wc) ∧ ((((v).setCell ⟨m, 0, none⟩ y0).setCell ⟨m, 1, none⟩ y1)).cell? ⟨n2, 0, none⟩ = some (.int .i64 (f : Int)) ∧ ((((v).setCell ⟨m, 0, none⟩ y0).setCell ⟨m, 1, none⟩ y1)).cell? ⟨n2, 1, none⟩ = some (.int .i64 (b : Int)) ∧ ((((v).setCell ⟨m, 0, none⟩ y0).setCell ⟨m, 1, none⟩ y1)).cell? ⟨n2, 2, none⟩ = some (.int .i64 xl) ∧ Below w2.heap.size w2 ((((v).setCell ⟨m, 0, none⟩ y0).setCell ⟨m, 1, none⟩ y1))) := Lib.hid (fun v m y0 y1 hm ⟨h0, h1, h2, h3, h4, h5, h6, h7, hY⟩ => by
    have q1 := HLT.out
    have all : ∀ (b o : Nat) (z : Value), b ≠ m → v.cell? ⟨b, o, none⟩ = some z → ((v.setCell ⟨m, 0, none⟩ y0).setCell ⟨m, 1, none⟩ y1).cell? ⟨b, o, none⟩ = some z := fun b o z hne hz =>
      (World.cell?_of_block (a := ⟨b, o, none⟩) (Below.heap_setCell _ _ _ _ hne)).trans ((World.cell?_of_block (a := ⟨b, o, none⟩) (Below.heap_setCell _ _ _ _ hne)).trans hz)
    have e1 : n1 ≠ m := by omega
    have e2 : n2 ≠ m := by omega
    exact ⟨all _ _ _ e1 h0, all _ _ _ e1 h1, all _ _ _ e1 h2, all _ _ _ e1 h3, all _ _ _ e1 h4, all _ _ _ e2 h5, all _ _ _ e2 h6, all _ _ _ e2 h7, (hY.setCell (p := ⟨m, 0, none⟩) hm _).setCell (p := ⟨m, 1, none⟩) hm _⟩)
  have SET0 : Hid (∀ (v : World) (y0 y1 : Value), ((v).cell? ⟨n1, 0, none⟩ = some (.int .i64 en) ∧ (v).cell? ⟨n1, 1, none⟩ = some (.int .i64 mi) ∧ (v).cell? ⟨n1, 2, none⟩ = some (.int .i64 ma) ∧ (v).cell? ⟨n1, 3, none⟩ = some (.slice sa st.length sc) ∧ (v).cell? ⟨n1, 4, none⟩ = some (.slice wa wn.length wc) ∧ (v).cell? ⟨n2, 0, none⟩ = some (.int .i64 (f : Int)) ∧ (v).cell? ⟨n2, 1, none⟩ = some (.int .i64 (b : Int)) ∧ (v).cell? ⟨n2, 2, none⟩ = some (.int .i64 xl) ∧ Below w2.heap.size w2 (v)) → ((((v).setCell ⟨w2.heap.size, 0, none⟩ y0).setCell ⟨w2.heap.size, 1, none⟩ y1)).cell? ⟨n1, 0, none⟩ = some (.int .i64 en) ∧ ((((v).setCell ⟨w2.heap.size, 0, none⟩ y0).setCell ⟨w2.heap.size, 1, none⟩ y1)).cell? ⟨n1, 1, none⟩ = some (.int .i64 mi) ∧ ((((v).setCell ⟨w2.heap.size, 0, none⟩ y0).setCell ⟨w2.heap.size, 1, none⟩ y1)).cell? ⟨n1, 2, none⟩ = some (.int .i64 ma) ∧ ((((v).setCell ⟨w2.heap.size, 0, none⟩ y0).setCell ⟨w2.heap.size, 1, none⟩ y1)).cell? ⟨n1, 3, none⟩ = some (.slice sa st.length sc) ∧ ((((v).setCell ⟨w2.heap.size, 0, none⟩ y0).setCell ⟨w2.heap.size, 1, none⟩ y1)).cell? ⟨n1, 4, none⟩ = some (.slice wa wn.length wc) ∧ ((((v).setCell ⟨w2.heap.size, 0, none⟩ y0).setCell ⟨w2.heap.size, 1, none⟩ y1)).cell? ⟨n2, 0, none⟩ = some (.int .i64 (f : Int)) ∧ ((((v).setCell ⟨w2.heap.size, 0, none⟩ y0).setCell ⟨w2.heap.size, 1, none⟩ y1)).cell? ⟨n2, 1, none⟩ = some (.int .i64 (b : Int)) ∧ ((((v).setCell ⟨w2.heap.size, 0, none⟩ y0).setCell ⟨w2.heap.size, 1, none⟩ y1)).cell? ⟨n2, 2, none⟩ = some (.int .i64 xl) ∧ Below w2.heap.size w2 ((((v).setCell ⟨w2.heap.size, 0, none⟩ y0).setCell ⟨w2.heap.size, 1, none⟩ y1))) := Lib.hid (fun v y0 y1 h => SET.out v _ y0 y1 (Nat.le_refl _) h)
  have SET1 : Hid (∀ (v u : World) (y0 y1 : Value), ((u).cell? ⟨n1, 0, none⟩ = some (.int .i64 en) ∧ (u).cell? ⟨n1, 1, none⟩ = some (.int .i64 mi) ∧ (u).cell? ⟨n1, 2, none⟩ = some (.int .i64 ma) ∧ (u).cell? ⟨n1, 3, none⟩ = some (.slice sa st.length sc) ∧ (u).cell? ⟨n1, 4, none⟩ = some (.slice wa wn.length wc) ∧ (u).cell? ⟨n2, 0, none⟩ = some (.int .i64 (f : Int)) ∧ (u).cell? ⟨n2, 1, none⟩ = some (.int .i64 (b : Int)) ∧ (u).cell? ⟨n2, 2, none⟩ = some (.int .i64 xl) ∧ Below w2.heap.size w2 (u)) → ((v).cell? ⟨n1, 0, none⟩ = some (.int .i64 en) ∧ (v).cell? ⟨n1, 1, none⟩ = some (.int .i64 mi) ∧ (v).cell? ⟨n1, 2, none⟩ = some (.int .i64 ma) ∧ (v).cell? ⟨n1, 3, none⟩ = some (.slice sa st.length sc) ∧ (v).cell? ⟨n1, 4, none⟩ = some (.slice wa wn.length wc) ∧ (v).cell? ⟨n2, 0, none⟩ = some (.int .i64 (f : Int)) ∧ (v).cell? ⟨n2, 1, none⟩ = some (.int .i64 (b : Int)) ∧ (v).cell? ⟨n2, 2, none⟩ = some (.int .i64 xl) ∧ Below w2.heap.size w2 (v)) → ((((v).setCell ⟨u.heap.size, 0, none⟩ y0).setCell ⟨u.heap.size, 1, none⟩ y1)).cell? ⟨n1, 0, none⟩ = some (.int .i64 en) ∧ ((((v).setCell ⟨u.heap.size, 0, none⟩ y0).setCell ⟨u.heap.size, 1, none⟩ y1)).cell? ⟨n1, 1, none⟩ = some (.int .i64 mi) ∧ ((((v).setCell ⟨u.heap.size, 0, none⟩ y0).setCell ⟨u.heap.size, 1, none⟩ y1)).cell? ⟨n1, 2, none⟩ = some (.int .i64 ma) ∧ ((((v).setCell ⟨u.heap.size, 0, none⟩ y0).setCell ⟨u.heap.size, 1, none⟩ y1)).cell? ⟨n1, 3, none⟩ = some (.slice sa st.length sc) ∧ ((((v).setCell ⟨u.heap.size, 0, none⟩ y0).setCell ⟨u.heap.size, 1, none⟩ y1)).cell? ⟨n1, 4, none⟩ = some (.slice wa wn.length wc) ∧ ((((v).setCell ⟨u.heap.size, 0, none⟩ y0).setCell ⟨u.heap.size, 1, none⟩ y1)).cell? ⟨n2, 0, none⟩ = some (.int .i64 (f : Int)) ∧ ((((v).setCell ⟨u.heap.size, 0, none⟩ y0).setCell ⟨u.heap.size, 1, none⟩ y1)).cell? ⟨n2, 1, none⟩ = some (.int .i64 (b : Int)) ∧ ((((v).setCell ⟨u.heap.size, 0, none⟩ y0).setCell ⟨u.heap.size, 1, none⟩ y1)).cell? ⟨n2, 2, none⟩ = some (.int .i64 xl) ∧ Below w2.heap.size w2 ((((v).setCell ⟨u.heap.size, 0, none⟩ y0).setCell ⟨u.heap.size, 1, none⟩ y1))) := Lib.hid (fun v u y0 y1 ⟨_, _, _, _, _, _, _, _, hu⟩ h => SET.out v _ y0 y1 hu.size h)
  have HNC : Hid (∀ v0 v1 : World, Below (v0.alloc (.cells #[.int .i64 0, .int .i64 0] 38)).heap.size (v0.alloc (.cells #[.int .i64 0, .int .i64 0] 38)) v1 → v1.heap[v0.heap.size]? = some (.cells #[.int .i64 0, .int .i64 0] 38)) := Lib.hid (fun v0 v1 g => box_below (heap_alloc_new v0 _) g)
  have HND : Hid (∀ v0 v1 : World, Below (v0.alloc (.cells #[.int .i64 0, .int .i64 0] 38)).drew.heap.size (v0.alloc (.cells #[.int .i64 0, .int .i64 0] 38)).drew v1 → v1.heap[v0.heap.size]? = some (.cells #[.int .i64 0, .int .i64 0] 38)) := Lib.hid (fun v0 v1 g => box_below (w := (v0.alloc (.cells #[.int .i64 0, .int .i64 0] 38)).drew) (heap_alloc_new v0 _) g)
  have HNE : Hid (∀ (m : Nat) (v0 v1 : World), v0.heap[m]? = some (.cells #[.int .i64 0, .int .i64 0] 38) → Below v0.heap.size v0 v1 → v1.heap[m]? = some (.cells #[.int .i64 0, .int .i64 0] 38)) := Lib.hid (fun m v0 v1 h g => box_below h g)
  have NCC : Hid (∀ (m : Nat) (v : World), v.heap[m]? = some (.cells #[.int .i64 0, .int .i64 0] 38) → (v.cell? ⟨m, 0, none⟩ = some (.int .i64 0) ∧ v.cell? ⟨m, 1, none⟩ = some (.int .i64 0)) ∧ v.frozen? ⟨m, 0, none⟩ = false ∧ v.frozen? ⟨m, 1, none⟩ = false) := Lib.hid (fun m v hS => ⟨⟨box_cell hS 0 _ rfl, box_cell hS 1 _ rfl⟩, box_fz hS 0, box_fz hS 1⟩)
  have WD : Hid (∀ v : World, ((v).cell? ⟨n1, 0, none⟩ = some (.int .i64 en) ∧ (v).cell? ⟨n1, 1, none⟩ = some (.int .i64 mi) ∧ (v).cell? ⟨n1, 2, none⟩ = some (.int .i64 ma) ∧ (v).cell? ⟨n1, 3, none⟩ = some (.slice sa st.length sc) ∧ (v).cell? ⟨n1, 4, none⟩ = some (.slice wa wn.length wc) ∧ (v).cell? ⟨n2, 0, none⟩ = some (.int .i64 (f : Int)) ∧ (v).cell? ⟨n2, 1, none⟩ = some (.int .i64 (b : Int)) ∧ (v).cell? ⟨n2, 2, none⟩ = some (.int .i64 xl) ∧ Below w2.heap.size w2 (v)) → Calls Tryd.prog 63 #[.agg #[.int .i64 en, .int .i64 mi, .int .i64 ma, .slice sa st.length sc, .slice wa wn.length wc], .agg #[.int .i64 (f : Int), .int .i64 (b : Int), .int .i64 xl]] v fun e w' => ∃ da dc mb mc, e = .returned (ScenP.val ⟨Pl.widest ⟨en, mi, ma, st, wn⟩ ⟨f, b, xl⟩, da, dc, mb, mc⟩) ∧ ScenP.ok ⟨Pl.widest ⟨en, mi, ma, st, wn⟩ ⟨f, b, xl⟩, da, dc, mb, mc⟩ w' ∧ Below v.heap.size v w') := Lib.hid (fun v ⟨_, _, _, _, _, _, _, _, hu⟩ =>
    (widest_any ⟨⟨en, mi, ma, st, wn⟩, sa, sc, wa, wc⟩ ⟨f, b, xl⟩ v (HQ.out.below hu) HN.out HOk.out).mono (fun e w' ⟨da, dc, mb, mc, h1, h2, h3⟩ => ⟨da, dc, mb, mc, h1, h2.ok, h3⟩))
  generalize hAn : Pl.widest ⟨en, mi, ma, st, wn⟩ ⟨f, b, xl⟩ = SC at *
  have HSC := Lib.hid hAn; clear hAn
  have RE : Hid (∀ (da : Option Addr) (dc : Nat) (mb : Option Addr) (mc : Nat) (v : World), ((v).cell? ⟨n1, 0, none⟩ = some (.int .i64 en) ∧ (v).cell? ⟨n1, 1, none⟩ = some (.int .i64 mi) ∧ (v).cell? ⟨n1, 2, none⟩ = some (.int .i64 ma) ∧ (v).cell? ⟨n1, 3, none⟩ = some (.slice sa st.length sc) ∧ (v).cell? ⟨n1, 4, none⟩ = some (.slice wa wn.length wc) ∧ (v).cell? ⟨n2, 0, none⟩ = some (.int .i64 (f : Int)) ∧ (v).cell? ⟨n2, 1, none⟩ = some (.int .i64 (b : Int)) ∧ (v).cell? ⟨n2, 2, none⟩ = some (.int .i64 xl) ∧ Below w2.heap.size w2 (v)) → ScenP.ok ⟨SC, da, dc, mb, mc⟩ v → Calls Tryd.prog 14 #[.agg #[.int .i64 en, .int .i64 mi, .int .i64 ma, .slice sa st.length sc, .slice wa wn.length wc], ScenP.val ⟨SC, da, dc, mb, mc⟩] v fun e w' => ∃ a c, e = .returned (.tuple #[.slice a (Pl.run ⟨en, mi, ma, st, wn⟩ SC).V.length c, .agg #[.int .i64 (Pl.run ⟨en, mi, ma, st, wn⟩ SC).kind, .int .i64 (Pl.run ⟨en, mi, ma, st, wn⟩ SC).num], .int .i64 0]) ∧ VsA w' a c (Pl.run ⟨en, mi, ma, st, wn⟩ SC).V ∧ Below v.heap.size v w' ∧ (∀ x, a = some x → v.heap.size ≤ x.block)) := Lib.hid (fun da dc mb mc v ⟨_, _, _, _, _, _, _, _, hu⟩ hr => by
    have := run_ends ⟨⟨en, mi, ma, st, wn⟩, sa, sc, wa, wc⟩ ⟨SC, da, dc, mb, mc⟩ v (HQ.out.below hu) hr
    simp only [HA.out] at this; exact this)
  generalize hV : (Pl.run ⟨en, mi, ma, st, wn⟩ SC).V = V at *
  generalize (Pl.run ⟨en, mi, ma, st, wn⟩ SC).kind = Ak at *
  generalize (Pl.run ⟨en, mi, ma, st, wn⟩ SC).num = An at *
  have HV := Lib.hid hV; clear hV
  obtain ⟨du, mv, de, tl, at0⟩ := SC
  have KB : Hid (∀ v : World, ((v).cell? ⟨n1, 0, none⟩ = some (.int .i64 en) ∧ (v).cell? ⟨n1, 1, none⟩ = some (.int .i64 mi) ∧ (v).cell? ⟨n1, 2, none⟩ = some (.int .i64 ma) ∧ (v).cell? ⟨n1, 3, none⟩ = some (.slice sa st.length sc) ∧ (v).cell? ⟨n1, 4, none⟩ = some (.slice wa wn.length wc) ∧ (v).cell? ⟨n2, 0, none⟩ = some (.int .i64 (f : Int)) ∧ (v).cell? ⟨n2, 1, none⟩ = some (.int .i64 (b : Int)) ∧ (v).cell? ⟨n2, 2, none⟩ = some (.int .i64 xl) ∧ Below w2.heap.size w2 (v)) → Below w2.heap.size w2 v) := Lib.hid (fun v ⟨_, _, _, _, _, _, _, _, h⟩ => h)
  go_cut [5] (fun s2 wx => ∃ (a : Option Addr) (c : Nat), s2 = .slice a V.length c ∧ Hid (Below w2.heap.size w2 wx ∧ VsA wx a c V))
  case first => as_aux_lemma =>
    go_region_held3 (fun v => (v).cell? ⟨n1, 0, none⟩ = some (.int .i64 en) ∧ (v).cell? ⟨n1, 1, none⟩ = some (.int .i64 mi) ∧ (v).cell? ⟨n1, 2, none⟩ = some (.int .i64 ma) ∧ (v).cell? ⟨n1, 3, none⟩ = some (.slice sa st.length sc) ∧ (v).cell? ⟨n1, 4, none⟩ = some (.slice wa wn.length wc) ∧ (v).cell? ⟨n2, 0, none⟩ = some (.int .i64 (f : Int)) ∧ (v).cell? ⟨n2, 1, none⟩ = some (.int .i64 (b : Int)) ∧ (v).cell? ⟨n2, 2, none⟩ = some (.int .i64 xl) ∧ Below w2.heap.size w2 (v))
      (first | with_reducible exact HS0.out | with_reducible exact KEEPD.out _ HS0.out | with_reducible exact KEEP.out _ _ (by assumption) g2 | with_reducible exact KEEP.out _ _ (by assumption) g1 | with_reducible exact KEEPA.out _ (by assumption) | with_reducible exact KEEP.out _ _ hS2 (below_new _ _) | with_reducible exact SET0.out _ _ _ hS2 | with_reducible exact SET1.out _ _ _ _ hS1 hS2)
      (first | (go_at_call 63; with_reducible refine (WD.out _ (by assumption)).mono ?_; rintro e v1 ⟨da, dc, mb, mc, rfl, hok, g1⟩; have hS1 := KEEP.out _ _ (by assumption) g1; (first | (have hO := HND.out _ _ g1) | skip)) | (go_at_call 14; (first | (with_reducible refine (RE.out da dc mb mc _ (by assumption) hok).mono ?_) | (with_reducible refine (RE.out da dc mb mc _ (by assumption) (hok.below (below_new _ _))).mono ?_)); intro e v2 hh; obtain ⟨a, c, he, hvs, g2, hge⟩ := hh; subst he; have hS2 := KEEP.out _ _ (by assumption) g2; (first | (have hO2 := HNE.out _ _ _ hO g2; have hS := NCC.out _ _ hO2; obtain ⟨⟨s0, s1⟩, f0, f1⟩ := hS) | (have hO2 := HNC.out _ _ g2; have hS := NCC.out _ _ hO2; obtain ⟨⟨s0, s1⟩, f0, f1⟩ := hS) | skip)))
    all_goals
      have hKB := KB.out _ (by assumption)
      go_wp2_with fail
      go_meet
      first
        | exact ⟨_, _, rfl, Lib.hid ⟨hKB, vs_set hvs (fun x hx => by have := hge x hx; first | (have := lt_of_block hO; omega) | (simp at this; omega))⟩⟩
        | exact ⟨_, _, rfl, Lib.hid ⟨hKB, hvs.below (below_new _ _)⟩⟩
  case rest =>
    obtain ⟨a, c, rfl, HC1⟩ := hcut
    clear HS0 KEEP KEEPA KEEPD SET SET0 SET1 HNC HND HNE NCC RE WD KB HA
    rename World => w3
    have hVl : V.length = st.length := HL.out
    have hbl : b < V.length := by have := HF.out; omega
    have hfl : f < V.length := by have := HF.out; omega
    have HE := Lib.hid (show Pl.margin ⟨en, mi, ma, st, wn⟩ ⟨f, b, xl⟩ = xl - (V[b].start - V[f].fin) by unfold Pl.margin; rw [HSC.out, HV.out, Pl.nth_lt hbl, Pl.nth_lt hfl])
    obtain ⟨vb, vo, rfl, hvb, hc⟩ := HC1.out.2.at (by omega)
    obtain ⟨-, -, -, v3⟩ := vs_cells (hc f hfl)
    obtain ⟨-, -, v2, -⟩ := vs_cells (hc b hbl)
    have b1 := HBD.out f hfl; have b2 := HBD.out b hbl; have b3 := HX.out
    rw [Pl.nth_lt hfl] at b1; rw [Pl.nth_lt hbl] at b2
    simp only at b3
    have e1 : IntKind.i64.wrap (V[b].start - V[f].fin) = V[b].start - V[f].fin := IntWalk.i64_in _ (by omega)
    have e2 : IntKind.i64.wrap (xl - (V[b].start - V[f].fin)) = xl - (V[b].start - V[f].fin) := IntWalk.i64_in _ (by omega)
    have HB3 := Lib.hid (below_step HB.out HC1.out.1)
    have x0 := box_cell (box_below XB.out HC1.out.1) 0 (.int .i64 (f : Int)) rfl
    have x1 := box_cell (box_below XB.out HC1.out.1) 1 (.int .i64 (b : Int)) rfl
    have x2 := box_cell (box_below XB.out HC1.out.1) 2 (.int .i64 xl) rfl
    have i1 : (0 : Int) ≤ (f : Int) := by omega
    have i2 : (f : Int) < (V.length : Int) := by omega
    have i3 : (0 : Int) ≤ (b : Int) := by omega
    have i4 : (b : Int) < (V.length : Int) := by omega
    have i5 : ((f : Int)).toNat = f := by omega
    have i6 : ((b : Int)).toNat = b := by omega
    clear b1 b2 b3 hc hVl HBD HL HX HM HF HOk HN HC1 HLT PB XB HB HQ hvb
    generalize V[b].start = s at *
    generalize V[f].fin = d at *
    clear hbl hfl
    clear HV HSC
    generalize V.length = l at *
    go_upto_region 2 with (fail)
    go_quiet (fail)
    go_wp2_with fail
    go_ret
    rw [HE.out]
    exact ⟨rfl, below_drewN HB3.out nq⟩
end Go.Proofs.YtihohjgjklcnlaaDoor

namespace Go.Proofs.YtihohjgjklcnlaaDoor.Pl
theorem safe_true {p : Plan} (h : (checkR p).2 = true) : Valid p ∧ SafeC p := by
  by_cases hv : Valid p
  · refine ⟨hv, ?_⟩
    by_cases hs : SafeC p
    · exact hs
    · obtain ⟨s, e, -⟩ := check_unsafe hv hs
      rw [e] at h; cases h
  · rw [check_not hv] at h; cases h
/-- The least of the margins so far. -/
def leastM (p : Plan) (l : List Win) : Int := l.foldl (fun m w => min m (margin p w)) 1000000
/-- What Slack answers. -/
def slackR (p : Plan) : Int × Bool := if (checkR p).2 = true ∧ p.wn ≠ [] then (leastM p p.wn, true) else (0, false)
theorem leastM_snoc (p : Plan) (l : List Win) (w : Win) : leastM p (l ++ [w]) = min (leastM p l) (margin p w) := by simp [leastM, List.foldl_append]
end Go.Proofs.YtihohjgjklcnlaaDoor.Pl
namespace Go.Proofs.YtihohjgjklcnlaaDoor
open Go.RowKit Go.Shelf
attribute [local go_sem] Oper.semAt_some
set_option maxRecDepth 100000 in
set_option maxHeartbeats 2000000 in
theorem Slack_any (q : PlanP) (w : World) (h : q.ok w) : Calls Tryd.prog 18 #[q.val] w fun e w' => e = .returned (.tuple #[.int .i64 (Pl.slackR q.p).1, .bool (Pl.slackR q.p).2]) ∧ Below w.heap.size w w' := by
  have hb1 := below_new w (planObj q)
  have HB := Lib.hid hb1
  have HQ := Lib.hid (h.below hb1)
  have PB := Lib.hid (heap_alloc_new w (planObj q))
  have HS := Lib.hid (isSafe_any q (w.alloc (planObj q)) (h.below hb1))
  clear h hb1
  cases hR : (Pl.checkR q.p).2 with
  | false =>
    have HE := Lib.hid (show Pl.slackR q.p = (0, false) by unfold Pl.slackR; rw [hR, if_neg (by simp)])
    rw [hR] at HS
    clear hR
    obtain ⟨⟨en, mi, ma, st, wn⟩, sa, sc, wa, wc⟩ := q
    go_enter Tryd.func18, Tryd.ntmps18
    go_wp2_with fail
    refine HS.out.mono ?_; rintro e w1 ⟨rfl, g1⟩
    have HB1 := Lib.hid (below_step HB.out g1)
    clear g1 HB HQ PB HS
    go_wp2_with fail
    refine bodyPost_ret (v := .tuple #[.int .i64 0, .bool false]) (by simp [results, Tryd.results18, go_sem]) rfl ⟨?_, HB1.out⟩
    rw [HE.out]
  | true =>
    obtain ⟨hv, hs⟩ := Pl.safe_true hR
    rw [hR] at HS
    have HN := Lib.hid hv.len.2
    have HWl := Lib.hid hv.wlen
    have HMa := Lib.hid (fun (k : Nat) (hk : k < q.p.wn.length) (v : World) (hv' : Below w.heap.size w v) (ho : q.ok v) => margin_any q q.p.wn[k] v ho hv.len.2 hv hs (List.getElem_mem hk))
    by_cases hwn : q.p.wn = []
    · have HE := Lib.hid (show Pl.slackR q.p = (0, false) by unfold Pl.slackR; rw [if_neg (by simp [hwn])])
      clear hR hv hs HMa HN HWl
      obtain ⟨⟨en, mi, ma, st, wn⟩, sa, sc, wa, wc⟩ := q
      simp only at hwn
      subst hwn
      go_enter Tryd.func18, Tryd.ntmps18
      go_wp2_with fail
      refine HS.out.mono ?_; rintro e w1 ⟨rfl, g1⟩
      have HB1 := Lib.hid (below_step HB.out g1)
      have c4 := box_cell (box_below PB.out g1) 4 (.slice wa 0 wc) rfl
      clear g1 HB HQ PB HS
      go_wp2_with fail
      refine bodyPost_ret (v := .tuple #[.int .i64 0, .bool false]) (by simp [results, Tryd.results18, go_sem]) rfl ⟨?_, HB1.out⟩
      rw [HE.out]
    · have HE := Lib.hid (show Pl.slackR q.p = (Pl.leastM q.p q.p.wn, true) by unfold Pl.slackR; rw [if_pos ⟨hR, hwn⟩])
      have hpos : 0 < q.p.wn.length := List.length_pos_iff.2 hwn
      have HPo := Lib.hid hpos
      clear hR hv hs hwn hpos
      obtain ⟨⟨en, mi, ma, st, wn⟩, sa, sc, wa, wc⟩ := q
      dsimp only at HN HWl HMa HE HPo
      go_enter Tryd.func18, Tryd.ntmps18
      go_wp2_with fail
      refine HS.out.mono ?_; rintro e w1 ⟨rfl, g1⟩
      have HB1 := Lib.hid (below_step HB.out g1)
      have HQ1 := Lib.hid (HQ.out.below g1)
      have PB1 := Lib.hid (box_below PB.out g1)
      clear g1 HB HQ PB HS
      have c4 := box_cell PB1.out 4 (.slice wa wn.length wc) rfl
      have n0 : ((wn.length : Int) == 0) = false := by have := HPo.out; simp; intro h; subst h; simp at this
      have n1 : ¬ (wn.length : Int) = 0 := by have := HPo.out; omega
      go_wp2_with fail
      clear c4 n0 n1
      go_loopw [4, 19] (fun m i wr => ∃ k : Nat, k ≤ wn.length ∧ m = .int .i64 (Pl.leastM ⟨en, mi, ma, st, wn⟩ (wn.take k)) ∧ i = .int .i64 (k : Int) ∧ Hid (Below w1.heap.size w1 wr)) (fun _ i _ => wn.length - (intOf i).toNat)
      case atStart => exact ⟨0, Nat.zero_le _, rfl, rfl, Lib.hid (Below.refl _ _)⟩
      case round =>
        obtain ⟨k, hk, rfl, rfl, HK⟩ := hrel
        rename World => wr
        by_cases hlt : k < wn.length
        · obtain ⟨wb, wo, rfl, hwb, hc⟩ := (HQ1.out.below HK.out).wn.at (show 0 < wn.length by omega)
          obtain ⟨d0, d1, d2⟩ := wn_cells (hc k hlt)
          have HT := Lib.hid (show Pl.leastM ⟨en, mi, ma, st, wn⟩ (wn.take (k + 1)) = min (Pl.leastM ⟨en, mi, ma, st, wn⟩ (wn.take k)) (Pl.margin ⟨en, mi, ma, st, wn⟩ wn[k]) by rw [List.take_succ_eq_append_getElem hlt, Pl.leastM_snoc])
          have HC := Lib.hid (fun v (hv : Below wr.heap.size wr v) => HMa.out k hlt v (below_step (below_step HB1.out HK.out) hv) (HQ1.out.below (below_step HK.out hv)))
          clear hc
          generalize wn[k] = x at *
          generalize Pl.leastM ⟨en, mi, ma, st, wn⟩ (wn.take k) = lm at *
          have i1 : (0 : Int) ≤ (k : Int) := by omega
          have i2 : (k : Int) < (wn.length : Int) := by omega
          have i4 : ((k : Int)).toNat = k := by omega
          go_upto_region 7 with (fail)
          have HX := Lib.hid (heap_alloc_new wr (winObj x))
          have hb2 := below_new wr (winObj x)
          have HC2 := Lib.hid (HC.out _ hb2)
          have HK2 := Lib.hid (below_step HK.out hb2)
          have PB2 := Lib.hid (box_below PB1.out HK2.out)
          have eL : wr.alloc (.cells #[.int .i64 x.f, .int .i64 x.t, .int .i64 x.lim] 49) = wr.alloc (winObj x) := rfl
          rw [eL]
          clear eL d0 d1 d2 HC hb2
          generalize wr.alloc (winObj x) = w2 at *
          generalize wr.heap.size = nx at *
          have x0 := box_cell HX.out 0 (.int .i64 x.f) rfl
          have x1 := box_cell HX.out 1 (.int .i64 x.t) rfl
          have x2 := box_cell HX.out 2 (.int .i64 x.lim) rfl
          have p0 := box_cell PB2.out 0 (.int .i64 en) rfl
          have p1 := box_cell PB2.out 1 (.int .i64 mi) rfl
          have p2 := box_cell PB2.out 2 (.int .i64 ma) rfl
          have p3 := box_cell PB2.out 3 (.slice sa st.length sc) rfl
          have p4 := box_cell PB2.out 4 (.slice (some ⟨wb, wo, none⟩) wn.length wc) rfl
          go_wp2_with fail
          refine HC2.out.mono ?_; rintro e w3 ⟨rfl, g3⟩
          have HK3 := Lib.hid (below_step HK2.out g3)
          clear g3 x0 x1 x2 p0 p1 p2 p3 p4 HK2 PB2
          have hwl := HWl.out
          clear HC2 HX hwb
          go_wp2_with fail
          go_roundw
          case rel => exact ⟨k + 1, by omega, by rw [HT.out], by go_num, HK3⟩
          case measure => simp [intOf]; omega
        · have hkl : k = wn.length := by omega
          subst hkl
          have HF := Lib.hid (show Pl.leastM ⟨en, mi, ma, st, wn⟩ (wn.take wn.length) = Pl.leastM ⟨en, mi, ma, st, wn⟩ wn by rw [List.take_length])
          have i5 : ¬ (wn.length : Int) < (wn.length : Int) := by omega
          go_wp2_with fail
          refine bodyPost_ret (v := .tuple #[.int .i64 (Pl.leastM ⟨en, mi, ma, st, wn⟩ (wn.take wn.length)), .bool true]) (by simp [results, Tryd.results18, go_sem]) rfl ⟨?_, below_step HB1.out HK.out⟩
          rw [HE.out, HF.out]
end Go.Proofs.YtihohjgjklcnlaaDoor
