/-
  The walk of CalendarExclusive.
-/
import Derived.Test.YtealfgeeigffbaaOff
import Derived.Deep.RegionLaw
import Derived.Deep.RegionHeld3
namespace Go.Proofs.Ytealfgeeigffbaa
open Go.RowKit Go.Shelf

/-- The calendar beside the list of what was booked. -/
structure KpM (C : Nat) (U : World) (i : Nat) (v : Value) (ml : List Kal.Bk) (K : Kal.Kal) (w : World) : Prop where
  ok : Kal.Ok K
  mem : ∀ b, b ∈ ml ↔ ∃ t, t < 60 ∧ b ∈ K t
  cnt : (Kal.all K).length = ml.length
  le : ml.length ≤ i
  off : CalOff C K U (fun k => v.ownBlock = some k) w
  own : BkOwn w U.heap.size v ml
theorem KpM.below {C i : Nat} {U w w' : World} {v : Value} {ml : List Kal.Bk} {K : Kal.Kal} (h : KpM C U i v ml K w) (hb : Below w.heap.size w w') : KpM C U i v ml K w' :=
  ⟨h.ok, h.mem, h.cnt, h.le, h.off.below hb, own_below h.own hb⟩
theorem KpM.no {C i : Nat} {U w w2 : World} {v : Value} {ml : List Kal.Bk} {K : Kal.Kal} (h : KpM C U i v ml K w)
    (ho : CalOff C K U (fun k => v.ownBlock = some k ∧ k < w.heap.size) w2) (hc : Ch (fun k => ¬ v.ownBlock = some k ∧ U.heap.size ≤ k) w w2) : KpM C U (i + 1) v ml K w2 :=
  ⟨h.ok, h.mem, h.cnt, Nat.le_succ_of_le h.le, ho.sub (fun k hk => ⟨hk, (h.own.lt k hk).2⟩), own_ch h.own hc (fun _ hk hn => hn.1 hk)⟩
theorem KpM.yes {C i : Nat} {U w w2 w3 w4 : World} {v v' : Value} {ml : List Kal.Bk} {K : Kal.Kal} {b : Kal.Bk} (h : KpM C U i v ml K w) (hf : Kal.free K b = true)
    (ho : CalOff C (Kal.book K b) U (fun k => v.ownBlock = some k ∧ k < w.heap.size) w2) (h3 : Below w2.heap.size w2 w3)
    (hg : w3.grownBy w4 v.ownBlock) (hv : v'.ownBlock = v.ownBlock ∨ v'.ownBlock = some w3.heap.size) (hown : BkOwn w4 U.heap.size v' (ml ++ [b])) : KpM C U (i + 1) v' (ml ++ [b]) (Kal.book K b) w4 := by
  have ht := Kal.okB_iff.1 (free_iff.1 hf).1
  refine ⟨h.ok.book b, fun x => ?_, ?_, ?_, ?_, hown⟩
  · rw [List.mem_append, List.mem_singleton, h.mem x]
    constructor
    · rintro (⟨t, h1, h2⟩ | rfl)
      · exact ⟨t, h1, mem_put_old h2⟩
      · exact ⟨x.tool.toNat, by omega, mem_put_new hf⟩
    · rintro ⟨t, h1, h2⟩
      rcases mem_book h2 with h2 | h2
      · exact .inr h2
      · exact .inl ⟨t, h1, h2⟩
  · rw [len_book, if_pos hf, List.length_append, h.cnt]; rfl
  · rw [List.length_append]; have := h.le; simp; omega
  · refine (((ho.more h3).ch (Ch.grown hg (fun _ e => e)) (fun k hk => ⟨.inl ⟨hk, (h.own.lt k hk).2⟩, (h.own.lt k hk).1⟩))).sub (fun k hk => ?_)
    rcases hv with e | e
    · exact .inl ⟨e ▸ hk, (h.own.lt k (e ▸ hk)).2⟩
    · rw [e] at hk; injection hk with hk; exact .inr (by have := h3.size; omega)
/-- What the statement asks of a booking: none of the list is in its way. -/
def clear (x : Kal.Bk) (ml : List Kal.Bk) : Bool := ml.all (fun y => !(decide (y.tool = x.tool) && (decide (y.s < x.e) && decide (x.s < y.e))))
theorem clear_free {C i : Nat} {U w : World} {v : Value} {ml : List Kal.Bk} {K : Kal.Kal} (h : KpM C U i v ml K w) (x : Kal.Bk) : (clear x ml && Kal.okB x) = Kal.free K x := by
  rw [Bool.eq_iff_iff, Bool.and_eq_true, free_iff]
  constructor
  · rintro ⟨h1, h2⟩
    refine ⟨h2, fun y hy hh => ?_⟩
    have ht := Kal.okB_iff.1 h2
    have hy2 := (h.ok.mem _ (by omega) y hy).2
    have := List.all_eq_true.1 h1 y ((h.mem y).2 ⟨_, by omega, hy⟩)
    simp at this
    omega
  · rintro ⟨h2, h1⟩
    refine ⟨List.all_eq_true.2 (fun y hy => ?_), h2⟩
    obtain ⟨t, ht, hy⟩ := (h.mem y).1 hy
    have hy2 := (h.ok.mem t ht y hy).2
    simp
    by_cases e1 : y.tool = x.tool
    · have := h1 y (by rw [show x.tool.toNat = t by omega]; exact hy)
      omega
    · exact .inl e1
theorem clear_take {x : Kal.Bk} {ml : List Kal.Bk} {k : Nat} (h : k < ml.length) : clear x (ml.take (k + 1)) = (clear x (ml.take k) && !(decide (ml[k].tool = x.tool) && (decide (ml[k].s < x.e) && decide (x.s < ml[k].e)))) := by
  unfold clear; rw [List.take_succ_eq_append_getElem h, List.all_append]; simp

theorem BkOwn.bka {w : World} {B c : Nat} {a : Option Addr} {l : List Kal.Bk} (h : BkOwn w B (.slice a l.length c) l) : BkA w a c l := by
  obtain ⟨a', c', e, h'⟩ := h.form
  injection e with e1 _ e2
  subst e1; subst e2; exact h'
theorem BkOwn.cells0 {w : World} {B c g : Nat} {l : List Kal.Bk} (h : BkOwn w B (.slice (some ⟨g, 0, none⟩) l.length c) l) (i : Nat) (hi : i < l.length) : w.cell? ⟨g, i * 4, none⟩ = some (.int .i64 l[i].tool) ∧ w.cell? ⟨g, i * 4 + 1, none⟩ = some (.int .i64 l[i].s) ∧ w.cell? ⟨g, i * 4 + 2, none⟩ = some (.int .i64 l[i].e) ∧ w.cell? ⟨g, i * 4 + 3, none⟩ = some (.int .i64 l[i].o) := by
  obtain ⟨g', off, e, _, hc⟩ := h.bka.at (by omega)
  injection e with e; injection e with e1 e2 _
  subst e1; subst e2
  have := hc i hi
  simpa using this
abbrev BoxAt (b : Kal.Bk) (B : Nat) (v : World) : Prop := v.cell? ⟨B, 0, none⟩ = some (.int .i64 b.tool) ∧ v.cell? ⟨B, 1, none⟩ = some (.int .i64 b.s) ∧ v.cell? ⟨B, 2, none⟩ = some (.int .i64 b.e) ∧ v.cell? ⟨B, 3, none⟩ = some (.int .i64 b.o)
set_option maxRecDepth 100000 in
set_option maxHeartbeats 4000000 in
theorem exclusiveLaw_any (a : Option Addr) (c : Nat) (X : List (List Int)) (b : Kal.Bk) (W : World) (h : ArrsA 4 W a c X) :
    Calls Try.prog 4 #[.slice a X.length c, bkV b] W fun e w' => e = .returned (.bool true) ∧ Below W.heap.size W w' := by
  have H := Lib.hid h
  have hLl := someL_len X
  clear h
  obtain ⟨i0, hi0, hz0, hz1, hz2⟩ := info_parts info_booking
  go_enter Try.func4, Try.ntmps4
  go_wp2_with fail
  refine (sane_any _).mono ?_; rintro e w1 ⟨rfl, g1⟩
  have hbx : w1.heap[W.heap.size]? = some (.cells #[.int .i64 b.tool, .int .i64 b.s, .int .i64 b.e, .int .i64 b.o] 35) := (g1.block _ (by rw [World.size_alloc]; omega)).trans (heap_alloc_new W _)
  have hlt1 : W.heap.size < w1.heap.size := lt_of_block hbx
  have G1 := Lib.hid (show Below W.heap.size W w1 from (below_new W _).trans (g1.mono (by rw [World.size_alloc]; omega)))
  have HSx := Lib.hid (show ∀ v : World, v.heap[W.heap.size]? = some (.cells #[.int .i64 b.tool, .int .i64 b.s, .int .i64 b.e, .int .i64 b.o] 35) → BoxAt b W.heap.size v from fun v hv => ⟨box_cell hv 0 _ rfl, box_cell hv 1 _ rfl, box_cell hv 2 _ rfl, box_cell hv 3 _ rfl⟩)
  have HX1 := Lib.hid (show ∀ v : World, v.heap = w1.heap → BoxAt b W.heap.size v from fun v hv => HSx.out v (by rw [hv]; exact hbx))
  have HX2 := Lib.hid (show ∀ v v' : World, v.heap = w1.heap → Below v.heap.size v v' → BoxAt b W.heap.size v' from fun v v' hv g => HSx.out v' ((g.block _ (by rw [hv]; exact hlt1)).trans (by rw [hv]; exact hbx)))
  have HX3 := Lib.hid (show ∀ v : World, v.heap = (w1.alloc (bkObj b)).heap → BoxAt b W.heap.size v from fun v hv => HSx.out v (by rw [hv]; exact ((below_new w1 (bkObj b)).block _ hlt1).trans hbx))
  have HX4 := Lib.hid (show ∀ v v' : World, v.heap = (w1.alloc (bkObj b)).heap → Below v.heap.size v v' → BoxAt b W.heap.size v' from fun v v' hv g => HSx.out v' ((g.block _ (by rw [hv, World.size_alloc]; omega)).trans (by rw [hv]; exact ((below_new w1 (bkObj b)).block _ hlt1).trans hbx)))
  have HX5 := Lib.hid (show ∀ v v' u : World, v.heap = w1.heap → Below v.heap.size v v' → u.heap = (v'.alloc (bkObj b)).heap → BoxAt b W.heap.size u from fun v v' u hv g hu => HSx.out u (by
    rw [hu]
    have h1 := (g.block _ (by rw [hv]; exact hlt1)).trans ((congrArg (fun h : Array Obj => h[W.heap.size]?) hv).trans hbx)
    exact ((below_new v' (bkObj b)).block _ (lt_of_block h1)).trans h1))
  have HS1 := Lib.hid (show ∀ v : World, v.heap = w1.heap → Below W.heap.size W v → Calls Try.prog 11 #[.slice a X.length c] v fun e w' => ∃ u, e = .returned u ∧ BkOwn w' w1.heap.size u (someL X) ∧ Below v.heap.size v w' from fun v hv hb =>
    (refSome_any X a c v (H.out.below hb)).mono fun _ _ ⟨u, h1, h2, h3⟩ => ⟨u, h1, h2.mono (by rw [hv]; exact Nat.le_refl _), h3⟩)
  have HX6 := Lib.hid (show ∀ (v3 u u9 : World) (v : Value) (L : List Kal.Bk), BoxAt b W.heap.size u → BkOwn v3 w1.heap.size v L → u.grownBy u9 v.ownBlock → BoxAt b W.heap.size u9 from fun v3 u u9 v L hb ho hg => by
    have hn : some W.heap.size ≠ v.ownBlock := fun e => by have := (ho.lt _ e.symm).1; omega
    exact ⟨hg.cell hb.1 hn, hg.cell hb.2.1 hn, hg.cell hb.2.2.1 hn, hg.cell hb.2.2.2 hn⟩)
  have HS2 := Lib.hid (show ∀ v : World, v.heap = (w1.alloc (bkObj b)).heap → Below W.heap.size W v → Calls Try.prog 11 #[.slice a X.length c] v fun e w' => ∃ u, e = .returned u ∧ BkOwn w' w1.heap.size u (someL X) ∧ Below v.heap.size v w' from fun v hv hb =>
    (refSome_any X a c v (H.out.below hb)).mono fun _ _ ⟨u, h1, h2, h3⟩ => ⟨u, h1, h2.mono (by rw [hv, World.size_alloc]; omega), h3⟩)
  have G2 := Lib.hid (show Below W.heap.size W (w1.alloc (bkObj b)) from below_step G1.out (below_new _ _))
  have HN1 := Lib.hid (fun v : World => World.news_of_block (w := v.alloc (bkObj b)) (B := v.heap.size) (cs := #[.int .i64 b.tool, .int .i64 b.s, .int .i64 b.e, .int .i64 b.o]) (t := 35) (fr := (0, 0)) (heap_alloc_new v _))
  have HN2 := Lib.hid (fun (v v' : World) (hv : v.heap = (w1.alloc (bkObj b)).heap) (g : Below v.heap.size v v') => World.news_of_block (w := v') (B := w1.heap.size) (cs := #[.int .i64 b.tool, .int .i64 b.s, .int .i64 b.e, .int .i64 b.o]) (t := 35) (fr := (0, 0)) ((g.block _ (by rw [hv, World.size_alloc]; omega)).trans ((congrArg (fun h : Array Obj => h[w1.heap.size]?) hv).trans (heap_alloc_new w1 _))))
  clear g1 hbx HSx
  generalize someL X = L at *
  go_wp2_with fail
  go_region_held3 (BoxAt b W.heap.size)
    (first | exact HX1.out _ (by rfl) | exact HX3.out _ (by rfl) | exact HX2.out _ _ (by rfl) g3 | exact HX4.out _ _ (by rfl) g3 | exact HX5.out _ _ _ (by rfl) g3 (by rfl) | exact HX6.out _ _ _ _ _ (HX5.out _ _ _ (by rfl) g3 (by rfl)) o3 hg9 | exact HX6.out _ _ _ _ _ (HX4.out _ _ (by rfl) g3) o3 hg9)
    (first | (go_at_call 11; refine (HS1.out _ (by rfl) (below_drewN G1.out _)).mono ?_; rintro e v3 ⟨v, rfl, o3, g3⟩) | (go_at_call 11; refine (HS2.out _ (by rfl) (below_drewN G2.out _)).mono ?_; rintro e v3 ⟨v, rfl, o3, g3⟩) | (refine step_append_lies _ (by rfl) _ _ _ (by rfl) w1.heap.size 35 i0 _ 4 32 Try.underlying23 hi0 hz0 hz1 hz2 rfl (by decide) _ L.length (bkRow L) (by rfl) (by first | exact o3 | exact o3.alloc (bkObj b)) _ 1 1 [.int .i64 b.tool, .int .i64 b.s, .int .i64 b.e, .int .i64 b.o] (by rfl) (by rfl) (by first | exact HN1.out _ | exact HN2.out _ _ (by rfl) g3) (by simp [Value.oneCell']) (by decide) (by unfold maxLen; omega) (by omega) (by have := g3.size; simp at this ⊢; omega) _ (by rfl) ?_; intro g9 cap9 w9 hown9 hg9 hat9 hlt9))
  all_goals
    have G9 := Lib.hid (show Below W.heap.size W w9 by
      first
        | exact (G1.out.trans (Below.mono (below_step (show Below w1.heap.size w1 v3 from ⟨g3.os, g3.tape, g3.output, g3.size, g3.block⟩) (below_new _ _)) (Nat.le_of_lt hlt1))).grown hg9 (by have := g3.size; simp at this ⊢; omega) (fun k e => by have := (o3.lt k e).1; omega)
        | exact (G2.out.trans (Below.mono (show Below (w1.alloc (bkObj b)).heap.size (w1.alloc (bkObj b)) v3 from ⟨g3.os, g3.tape, g3.output, g3.size, g3.block⟩) (by rw [World.size_alloc]; omega))).grown hg9 (by have := g3.size; simp at this ⊢; omega) (fun k e => by have := (o3.lt k e).1; omega))
    have O9 := Lib.hid (show BkOwn w9 w1.heap.size (.slice (some ⟨g9, 0, none⟩) (L ++ [b]).length cap9) (L ++ [b]) from by
      rw [List.length_append]; exact BkOwn.snoc hown9)
    have hM : (L ++ [b]).length = L.length + 1 := by simp
    have hc9 := (own_slice O9.out)
    obtain ⟨a9', c9', e9, hcp1, hcp2, -⟩ := hc9
    injection e9 with e9a _ e9
    subst e9a; subst e9
    clear hown9 hg9 hat9 hlt9 g3 o3
    generalize L ++ [b] = M at *
    have hML : M.length ≤ 41 := by omega
    have hMi : (L.length : Int) + 1 = (M.length : Int) := by omega
    unfold maxLen at hcp2
    rw [← hM]
    clear hM hMi
    go_wp2_with fail
    refine (new_is w9).mono ?_; rintro e w10 ⟨C, rfl, h10⟩
    have HK := Lib.hid (show KpM C w9 0 (.slice none 0 0) [] Kal.empty w10 from ⟨Kal.Ok.empty, fun b => ⟨fun h => (by cases h), fun ⟨t, _, h⟩ => (by cases h)⟩, by decide +kernel, Nat.le_refl _, (h10.off (Below.refl _ _)).sub (fun k hk => by cases hk), BkOwn.nil _ _⟩)
    clear h10
    go_wp2_with fail
    go_loopw [8, 9] (fun vv iv wr => ∃ (i : Nat) (v : Value) (ml : List Kal.Bk) (K : Kal.Kal), i ≤ M.length ∧ v = vv ∧ iv = .int .i64 (i : Int) ∧ Hid (KpM C w9 i v ml K wr)) (fun _ iv _ => M.length - (intOf iv).toNat)
    case atStart => exact ⟨0, _, _, _, by omega, rfl, rfl, HK⟩
    case round =>
      obtain ⟨i, v, ml, K, hi, rfl, rfl, HK⟩ := hrel
      rename World => wo
      by_cases hlt : i < M.length
      · have HXc := Lib.hid (fun w' (hb : Below w9.heap.size w9 w') => BkOwn.cells0 (own_below O9.out hb) i hlt)
        have i0' : (0 : Int) ≤ (i : Int) := by omega
        have i1 : (i : Int) < (M.length : Int) := by omega
        have hml := HK.out.le
        obtain ⟨av, cv, rfl, hav⟩ := HK.out.own.form
        have hcv : ml.length ≤ cv ∧ cv ≤ maxLen := ⟨hav.1, hav.2.1⟩
        obtain ⟨hcv1, hcv2⟩ := hcv
        unfold maxLen at hcv2
        clear hav
        generalize M[i] = x at *
        go_wp2_with fail
        go_loopw [10, 11] (fun fv kv wr => ∃ (k : Nat) (f : Bool), k ≤ ml.length ∧ fv = .bool f ∧ kv = .int .i64 (k : Int) ∧ Hid (f = clear x (ml.take k)) ∧ Hid (KpM C w9 i (.slice av ml.length cv) ml K wr)) (fun _ kv _ => ml.length - (intOf kv).toNat)
        case atStart => exact ⟨0, true, by omega, rfl, rfl, Lib.hid rfl, HK⟩
        case round =>
          obtain ⟨k, f, hk, rfl, rfl, HF, HR⟩ := hrel
          by_cases hkl : k < ml.length
          · obtain ⟨g, off, rfl, hg, hc⟩ := HR.out.own.bka.at (by omega)
            obtain ⟨y0, y1, y2, y3⟩ := hc k hkl
            obtain ⟨x0, x1, x2, x3⟩ := HXc.out wr HR.out.off.is.bel
            have HT := Lib.hid (clear_take (x := x) hkl)
            have k0 : (0 : Int) ≤ (k : Int) := by omega
            have k1 : (k : Int) < (ml.length : Int) := by omega
            have HD := Lib.hid (fun nq => HR.out.below (below_drewN (Below.refl _ wr) nq))
            clear hc
            generalize ml[k] = y at *
            by_cases h1 : y.tool = x.tool
            · have d1 : (y.tool == x.tool) = true := by rw [beq_iff_eq]; exact h1
              by_cases h2 : y.s < x.e
              · have d2 : decide (y.s < x.e) = true := decide_eq_true h2
                by_cases h3 : x.s < y.e
                · have d3 : decide (x.s < y.e) = true := decide_eq_true h3
                  have HF2 := Lib.hid (show false = clear x (ml.take (k + 1)) by rw [HT.out]; simp [h1, h2, h3])
                  clear h1 h2 h3
                  go_wp2_with fail
                  go_quiet (fail)
                  go_wp2_with fail
                  exact ⟨⟨k + 1, false, hkl, rfl, by go_num, HF2, Lib.hid (HD.out _)⟩, by simp [intOf]; omega⟩
                · have d3 : decide (x.s < y.e) = false := decide_eq_false h3
                  have HF2 := Lib.hid (show f = clear x (ml.take (k + 1)) by rw [HT.out, ← HF.out]; simp [h3])
                  clear h1 h2 h3
                  go_wp2_with fail
                  go_quiet (fail)
                  go_wp2_with fail
                  exact ⟨⟨k + 1, f, hkl, rfl, by go_num, HF2, Lib.hid (HD.out _)⟩, by simp [intOf]; omega⟩
              · have d2 : decide (y.s < x.e) = false := decide_eq_false h2
                have HF2 := Lib.hid (show f = clear x (ml.take (k + 1)) by rw [HT.out, ← HF.out]; simp [h2])
                clear h1 h2
                go_wp2_with fail
                go_quiet (fail)
                go_wp2_with fail
                exact ⟨⟨k + 1, f, hkl, rfl, by go_num, HF2, Lib.hid (HD.out _)⟩, by simp [intOf]; omega⟩
            · have d1 : (y.tool == x.tool) = false := by rw [beq_eq_false_iff_ne]; exact h1
              have HF2 := Lib.hid (show f = clear x (ml.take (k + 1)) by rw [HT.out, ← HF.out]; simp [h1])
              clear h1
              go_wp2_with fail
              go_quiet (fail)
              go_wp2_with fail
              exact ⟨⟨k + 1, f, hkl, rfl, by go_num, HF2, Lib.hid (HD.out _)⟩, by simp [intOf]; omega⟩
          · have k1 : ¬ (k : Int) < (ml.length : Int) := by omega
            have HCF := clear_free HR.out x
            rw [show clear x ml = f by rw [HF.out, List.take_of_length_le (by omega)]] at HCF
            obtain ⟨x0, x1, x2, x3⟩ := HXc.out wr HR.out.off.is.bel
            have HV := Lib.hid (refValid_any x)
            have HB := Lib.hid (fun w' (hb : Below wr.heap.size wr w') => book_off x (HR.out.below hb).off)
            generalize Kal.okB x = r at *
            clear HF HB
            by_cases hf : Kal.free K x = true
            · rw [hf, Bool.and_eq_true] at HCF
              obtain ⟨rfl, rfl⟩ := HCF
              go_wp2_with fail
              refine (HV.out wr).mono ?_; rintro e w11 ⟨rfl, g11⟩
              have HK11 := Lib.hid (HR.out.below g11)
              clear x0 x1 x2 x3 g11
              obtain ⟨x0, x1, x2, x3⟩ := HXc.out w11 HK11.out.off.is.bel
              have HB := book_off x HK11.out.off
              rw [if_pos hf] at HB
              go_wp2_with fail
              refine HB.mono ?_; rintro e w12 ⟨rfl, ho, hc⟩
              clear x0 x1 x2 x3
              obtain ⟨x0, x1, x2, x3⟩ := HXc.out w12 ho.is.bel
              have hown : BkOwn w12 w9.heap.size (.slice av ml.length cv) ml := own_ch HK11.out.own hc (fun _ hk hn => hn.1 hk)
              have hw5 : w9.heap.size ≤ w12.heap.size := ho.is.bel.size
              have HY := Lib.hid (fun v' w3' w4' hg hv hown' => KpM.yes (v' := v') (w3 := w3') (w4 := w4') HK11.out hf ho hg hv hown')
              have HOwn := Lib.hid (hown.alloc (bkObj x))
              have HNW := Lib.hid (World.news_of_block (w := w12.alloc (bkObj x)) (B := w12.heap.size) (cs := #[.int .i64 x.tool, .int .i64 x.s, .int .i64 x.e, .int .i64 x.o]) (t := 35) (fr := (0, 0)) (heap_alloc_new w12 _))
              clear ho hc hown hf HB HV
              go_wp2_with (at_builtin; refine wpList_append_own_at _ rfl _ _ 23 rfl w9.heap.size 35 i0 _ 4 32 Try.underlying23 hi0 hz0 hz1 hz2 rfl (by decide) _ _ _ rfl HOwn.out ⟨w12.heap.size, 0, none⟩ 1 1 [.int .i64 x.tool, .int .i64 x.s, .int .i64 x.e, .int .i64 x.o] rfl rfl HNW.out ?c2 ?c3 ?c4 ?c5 ?_)
              case c2 => simp [Value.oneCell']
              case c3 => unfold maxLen; omega
              case c4 => omega
              case c5 => simp; omega
              intro v' w7 hown' hgrow _ hv'
              have HF2 := Lib.hid (HY.out v' _ w7 (below_new w12 (bkObj x)) hgrow (by rwa [World.size_alloc]) (BkOwn.snoc hown'))
              clear hown' hgrow hv' HY
              go_wp2_with fail
              go_roundw
              case rel => exact ⟨i + 1, _, _, _, hlt, rfl, by go_num, HF2⟩
              case measure => simp [intOf]; omega
            · have hff : Kal.free K x = false := by simpa using hf
              rw [hff] at HCF
              have HBN := Lib.hid (fun w' (hb : Below wr.heap.size wr w') => by
                have := book_off x (HR.out.below hb).off
                rw [if_neg hf, show Kal.book K x = K by unfold Kal.book; rw [if_neg hf]] at this
                exact this)
              clear hff hf
              cases f <;> cases r
              case true.true => cases HCF
              all_goals
                clear HCF
                go_wp2_with fail
                refine (HV.out wr).mono ?_; rintro e w11 ⟨rfl, g11⟩
                have HK11 := Lib.hid (HR.out.below g11)
                have HB := HBN.out w11 g11
                clear x0 x1 x2 x3 g11
                obtain ⟨x0, x1, x2, x3⟩ := HXc.out w11 HK11.out.off.is.bel
                go_wp2_with fail
                refine HB.mono ?_; rintro e w12 ⟨rfl, ho, hc⟩
                have HF2 := Lib.hid (HK11.out.no ho hc)
                clear ho hc HB HV
                go_wp2_with fail
                go_roundw
                case rel => exact ⟨i + 1, _, _, _, hlt, rfl, by go_num, HF2⟩
                case measure => simp [intOf]; omega
      · have i1 : ¬ (i : Int) < (M.length : Int) := by omega
        obtain ⟨av, cv, rfl, -⟩ := HK.out.own.form
        have HI := Lib.hid HK.out.off.is
        have HOk := Lib.hid HK.out.ok
        have HG := G9
        go_wp2_with fail
        go_loopw [14] (fun tv wr => ∃ t : Nat, t ≤ 60 ∧ tv = .int .i64 (t : Int) ∧ Hid (CalIs C K w9 wr)) (fun tv _ => 60 - (intOf tv).toNat)
        case atStart => exact ⟨0, by omega, rfl, HI⟩
        case round =>
          obtain ⟨t, ht, rfl, HT⟩ := hrel
          rename World => wt
          by_cases h60 : t < 60
          · have htool : Kal.isTool (t : Int) = true := by unfold Kal.isTool; simp; omega
            have HL := list_is (t : Int) HT.out
            rw [if_pos htool, Int.toNat_natCast] at HL
            have HL := Lib.hid HL
            have hle := HOk.out.len (i := t) (by omega)
            have HSt := Lib.hid (HOk.out.srt t h60)
            have t1 : (t : Int) < 60 := by omega
            clear htool
            generalize K t = l at *
            go_wp2_with fail
            refine HL.out.mono ?_; rintro e w6 ⟨v6, rfl, o6, g6⟩
            obtain ⟨am, cm, rfl, hm⟩ := o6.form
            have O6 := Lib.hid o6; have G6 := Lib.hid g6
            have hcm : l.length ≤ cm ∧ cm ≤ maxLen := ⟨hm.1, hm.2.1⟩
            obtain ⟨hcm1, hcm2⟩ := hcm
            unfold maxLen at hcm2
            clear hm o6 g6
            go_wp2_with fail
            go_loopw [16] (fun jv wr => ∃ j : Nat, (j + 1 ≤ l.length ∨ j = 0) ∧ jv = .int .i64 ((j + 1 : Nat) : Int) ∧ Hid (Below w6.heap.size w6 wr)) (fun jv _ => l.length + 1 - (intOf jv).toNat)
            case atStart => exact ⟨0, .inr rfl, rfl, Lib.hid (Below.refl _ _)⟩
            case round =>
              obtain ⟨j, hj, rfl, HJ⟩ := hrel
              by_cases hjl : j + 1 < l.length
              · obtain ⟨g, off, rfl, hg, hc⟩ := BkA.at (BkOwn.bka (own_below O6.out HJ.out)) (by omega)
                obtain ⟨x0, x1, x2, x3⟩ := hc (j + 1) hjl
                obtain ⟨y0, y1, y2, y3⟩ := hc j (by omega)
                have hs := List.pairwise_iff_getElem.1 HSt.out.1 j (j + 1) (by omega) hjl (by omega)
                have z0 : (0 : Int) ≤ ((j + 1 : Nat) : Int) := by omega
                have z1 : IntKind.i64.wrap (((j + 1 : Nat) : Int) - 1) = (j : Int) := by rw [IntWalk.i64_in _ ⟨by omega, by omega⟩]; omega
                have z2 : ((j + 1 : Nat) : Int) < (l.length : Int) := by omega
                have z3 : (j : Int) < (l.length : Int) := by omega
                have z4 : (0 : Int) ≤ (j : Int) := by omega
                have HJ2 := Lib.hid (fun nq => below_drewN HJ.out nq)
                clear hc
                generalize l[j + 1] = x at *
                generalize l[j]'(by omega) = y at *
                have d1 : decide (y.e > x.s) = false := decide_eq_false (by omega)
                clear hs
                go_wp2_with fail
                go_quiet (fail)
                go_wp2_with fail
                exact ⟨⟨j + 1, .inl (by omega), by go_num, Lib.hid (HJ2.out _)⟩, by simp [intOf]; omega⟩
              · have z2 : ¬ ((j + 1 : Nat) : Int) < (l.length : Int) := by omega
                have HT2 := Lib.hid (HT.out.below (G6.out.trans (HJ.out.mono G6.out.size)))
                go_wp2_with fail
                go_roundw
                case rel => exact ⟨t + 1, h60, by go_num, HT2⟩
                case measure => simp [intOf]; omega
          · have t1 : ¬ (t : Int) < 60 := by omega
            have HLn := len_is HT.out
            rw [HK.out.cnt] at HLn
            have HE := Lib.hid (HG.out.trans (HT.out.bel.mono HG.out.size))
            go_wp2_with fail
            refine HLn.mono ?_; rintro e wz ⟨rfl, rfl⟩
            go_wp2_with fail
            go_ret
            exact ⟨rfl, HE.out⟩
end Go.Proofs.Ytealfgeeigffbaa
