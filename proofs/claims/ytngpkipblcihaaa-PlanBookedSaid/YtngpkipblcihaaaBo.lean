/-
  The contract of Bookings.
-/
import Derived.Test.YtngpkipblcihaaaVp
import Derived.Deep.AppendLies
namespace Go.Proofs.Ytngpkipblcihaaa
open Go.RowKit

theorem ne_of_k2 {w : World} {i j : Nat} {cs ds : Array Value} {t u : TypeId} (h1 : w.heap[i]? = some (.cells cs t)) (h2 : w.heap[j]? = some (.cells ds u)) (h : t ≠ u) : i ≠ j := by
  rintro rfl; rw [h1] at h2; injection h2 with h2; injection h2 with _ h2; exact h h2
theorem info_bk : (Try.prog.info? 57).map (fun i => (i.zero, i.size, i.bytes)) = some (some (.agg #[.int .i64 0, .int .i64 0, .int .i64 0, .int .i64 0]), 4, 32) := by kernel_rfl
def twoB (x : Pl.Stage) (o : Int) : List Pl.Bk := [⟨x.m.tool, x.m.start, x.m.start + x.mx, o⟩, ⟨x.s.tool, x.s.start, x.s.start + x.mx, o⟩]
theorem books_eq (l : List Pl.Stage) (o : Int) : Pl.books l o = l.flatMap (fun x => twoB x o) := rfl
theorem books_snoc (l : List Pl.Stage) (o : Int) (k : Nat) (h : k < l.length) : Pl.books (l.take (k + 1)) o = Pl.books (l.take k) o ++ twoB l[k] o := by
  rw [List.take_succ_eq_append_getElem h, books_eq, List.flatMap_append]; simp [books_eq]
theorem books_len (l : List Pl.Stage) (o : Int) : (Pl.books l o).length = 2 * l.length := by
  rw [books_eq]; induction l with
  | nil => rfl
  | cons x l ih => rw [List.flatMap_cons, List.length_append, ih]; simp [twoB]; omega
def BksPost (p : Pl.Plan) (o : Int) (w : World) (e : Ending) (w' : World) : Prop :=
  ∃ a c, e = .returned (.slice a (Pl.bookings p o).length c) ∧ PbO w' w.heap.size (.slice a (Pl.bookings p o).length c) (Pl.bookings p o) ∧ Below w.heap.size w w'
theorem bks_none {p : Pl.Plan} {o : Int} {w w' : World} (h : Pl.bookings p o = []) (hb : Below w.heap.size w w') : BksPost p o w (.returned (.slice none 0 0)) w' := by
  unfold BksPost; rw [h]; exact ⟨none, 0, rfl, RowO.nil _ _ _ _ _, hb⟩
set_option maxRecDepth 100000 in
set_option maxHeartbeats 4000000 in
theorem Bookings_any (q : PlanP) (o : Int) (w : World) (h : q.ok w) : Calls Try.prog 19 #[q.val, .int .i64 o] w (BksPost q.p o w) := by
  have HV := Lib.hid (fun v (hv : Below w.heap.size w v) => Valid_any q v (h.below hv))
  have HW := Lib.hid (within_any o 1 1000000)
  have HG := Lib.hid (below_new w (planObj q))
  have HN := Lib.hid (heap_alloc_new w (planObj q))
  have HQ := Lib.hid h
  have ls := h.st.len
  unfold maxLen at ls
  clear h
  have HB0 := Lib.hid (show (Pl.valid q.p && Pl.within o 1 1000000) = false → Pl.bookings q.p o = [] from fun h => by unfold Pl.bookings; rw [h]; rfl)
  have HB1 := Lib.hid (show Pl.valid q.p = true → Pl.within o 1 1000000 = true → Pl.bookings q.p o = Pl.books q.p.st o ∧ Pl.Valid q.p from fun h1 h2 => by unfold Pl.bookings; rw [h1, h2]; exact ⟨rfl, Pl.valid_iff.1 h1⟩)
  generalize Pl.valid q.p = B1 at *
  generalize Pl.within o 1 1000000 = B2 at *
  obtain ⟨⟨en, mi, ma, st, wn⟩, sa, sc, wa, wc⟩ := q
  simp only at ls
  dsimp only [planObj] at HG HN
  cases B1
  · have HE := Lib.hid (HB0.out rfl)
    clear HB0 HB1
    go_enter Try.func19, Try.ntmps19
    go_wp2_with fail
    refine (HV.out _ HG.out).mono ?_; rintro _ w1 ⟨rfl, g1⟩
    have G1 := Lib.hid (below_step HG.out g1); clear g1
    go_wp2_with fail
    go_ret
    exact bks_none HE.out G1.out
  cases B2
  · have HE := Lib.hid (HB0.out rfl)
    clear HB0 HB1
    go_enter Try.func19, Try.ntmps19
    go_wp2_with fail
    refine (HV.out _ HG.out).mono ?_; rintro _ w1 ⟨rfl, g1⟩
    have G1 := Lib.hid (below_step HG.out g1); clear g1
    go_wp2_with fail
    refine (HW.out _).mono ?_; rintro _ w2 ⟨rfl, rfl⟩
    go_wp2_with fail
    go_ret
    exact bks_none HE.out G1.out
  · have HE := Lib.hid (HB1.out rfl rfl)
    clear HB0 HB1
    go_enter Try.func19, Try.ntmps19
    go_wp2_with fail
    generalize w.alloc (.cells #[.int .i64 en, .int .i64 mi, .int .i64 ma, .slice sa st.length sc, .slice wa wn.length wc] 28) = W at *
    refine (HV.out _ HG.out).mono ?_; rintro _ w1 ⟨rfl, g1⟩
    have G1 := Lib.hid (below_step HG.out g1)
    have N1 := Lib.hid (box_below HN.out g1); clear g1 HN HG
    go_wp2_with fail
    refine (HW.out _).mono ?_; rintro _ w2 ⟨rfl, rfl⟩
    have d3 := box_cell N1.out 3 (.slice sa st.length sc) rfl
    go_wp2_with fail
    clear d3
    obtain ⟨i0, hi, hz0, hz1, hz2⟩ := info_parts info_bk
    go_loopw [5, 21] (fun v i wr => ∃ (k : Nat) (a : Option Addr) (c : Nat), k ≤ st.length ∧ v = .slice a (Pl.books (st.take k) o).length c ∧ i = .int .i64 (k : Int) ∧ Hid (PbO wr w.heap.size (.slice a (Pl.books (st.take k) o).length c) (Pl.books (st.take k) o)) ∧ Hid (Below w.heap.size w wr)) (fun _ i _ => st.length - (intOf i).toNat)
    case atStart => exact ⟨0, none, 0, Nat.zero_le _, rfl, rfl, Lib.hid (RowO.nil _ _ _ _ _), G1⟩
    case round =>
      obtain ⟨k, a, c, hk, rfl, rfl, HR, hb⟩ := hrel
      by_cases hlt : k < st.length
      · obtain ⟨b, off, rfl, hbb, h1⟩ := (HQ.out.st.below hb.out).2.2 k hlt
        obtain ⟨c0, c1, c2, c3, c4, c5⟩ := st_cells h1
        have HX := Lib.hid (HE.out.2.st st[k] (List.getElem_mem hlt))
        have HS := Lib.hid (books_snoc st o k hlt)
        have HLn := Lib.hid (show (Pl.books (st.take k) o).length ≤ 100 by rw [books_len, List.length_take]; have := HE.out.2.len; simp only at this; omega)
        clear h1
        generalize st[k] = x at *
        generalize Pl.books (st.take k) o = L at *
        have e1 : IntKind.i64.wrap (x.m.start + x.mx) = x.m.start + x.mx := IntWalk.i64_in _ (by have h1 := HX.out.ms; have h2 := HX.out.mn; have h3 := HX.out.mx; omega)
        have e2 : IntKind.i64.wrap (x.s.start + x.mx) = x.s.start + x.mx := IntWalk.i64_in _ (by have h1 := HX.out.ss; have h2 := HX.out.mn; have h3 := HX.out.mx; omega)
        have HW2 := Lib.hid (below_step (below_new wr (.cells #[.int .i64 x.mn, .int .i64 x.mx, .int .i64 x.m.tool, .int .i64 x.m.start, .int .i64 x.s.tool, .int .i64 x.s.start] 45)) (below_new _ (.cells #[.int .i64 x.m.tool, .int .i64 x.m.start, .int .i64 x.s.tool, .int .i64 x.s.start] 43)))
        have N7 := Lib.hid (box_below (heap_alloc_new wr (.cells #[.int .i64 x.mn, .int .i64 x.mx, .int .i64 x.m.tool, .int .i64 x.m.start, .int .i64 x.s.tool, .int .i64 x.s.start] 45)) (below_new (wr.alloc (.cells #[.int .i64 x.mn, .int .i64 x.mx, .int .i64 x.m.tool, .int .i64 x.m.start, .int .i64 x.s.tool, .int .i64 x.s.start] 45)) (.cells #[.int .i64 x.m.tool, .int .i64 x.m.start, .int .i64 x.s.tool, .int .i64 x.s.start] 43)))
        have N9 := heap_alloc_new (wr.alloc (.cells #[.int .i64 x.mn, .int .i64 x.mx, .int .i64 x.m.tool, .int .i64 x.m.start, .int .i64 x.s.tool, .int .i64 x.s.start] 45)) (.cells #[.int .i64 x.m.tool, .int .i64 x.m.start, .int .i64 x.s.tool, .int .i64 x.s.start] 43)
        rw [show (wr.alloc (.cells #[.int .i64 x.mn, .int .i64 x.mx, .int .i64 x.m.tool, .int .i64 x.m.start, .int .i64 x.s.tool, .int .i64 x.s.start] 45)).heap.size = wr.heap.size + 1 by simp] at N9
        have N9 := Lib.hid N9
        have HR2 := Lib.hid (HR.out.below HW2.out)
        have hb2 := Lib.hid (below_step hb.out HW2.out)
        rename World => wo
        clear HR
        go_wp2_with fail
        generalize (wo.alloc (.cells #[.int .i64 x.mn, .int .i64 x.mx, .int .i64 x.m.tool, .int .i64 x.m.start, .int .i64 x.s.tool, .int .i64 x.s.start] 45)).alloc (.cells #[.int .i64 x.m.tool, .int .i64 x.m.start, .int .i64 x.s.tool, .int .i64 x.s.start] 43) = W2 at *
        clear c0 c1 c2 c3 c4 c5 HW2
        go_loopw [5, 31] (fun v i wq => ∃ (j : Nat) (a' : Option Addr) (c' : Nat), j ≤ 2 ∧ v = .slice a' (L ++ (twoB x o).take j).length c' ∧ i = .int .i64 (j : Int) ∧ Hid (PbO wq w.heap.size (.slice a' (L ++ (twoB x o).take j).length c') (L ++ (twoB x o).take j)) ∧ Hid (Below w.heap.size w wq) ∧ Hid (wq.heap[wo.heap.size]? = some (stageObj x) ∧ wq.heap[wo.heap.size + 1]? = some (.cells #[.int .i64 x.m.tool, .int .i64 x.m.start, .int .i64 x.s.tool, .int .i64 x.s.start] 43))) (fun _ i _ => 2 - (intOf i).toNat)
        case atStart => exact ⟨0, a, c, by omega, by simp, rfl, Lib.hid (by simpa using HR2.out), hb2, Lib.hid ⟨N7.out, N9.out⟩⟩
        case round =>
          obtain ⟨j, a1, c1, hj, rfl, rfl, HR3, hb3, hW3⟩ := hrel
          rename World => wq
          by_cases hj2 : j < 2
          · obtain ⟨y, hy⟩ : ∃ y : Pl.Slot, y = if j = 0 then x.m else x.s := ⟨_, rfl⟩
            have HY := Lib.hid (show (twoB x o).take (j + 1) = (twoB x o).take j ++ [⟨y.tool, y.start, y.start + x.mx, o⟩] by
              have : j = 0 ∨ j = 1 := by omega
              rcases this with rfl | rfl <;> (subst hy; rfl))
            have M9 := hW3.out.2
            have y0 : wq.cell? ⟨wo.heap.size + 1, j * 2, none⟩ = some (.int .i64 y.tool) := by
              have : j = 0 ∨ j = 1 := by omega
              rcases this with rfl | rfl <;> subst hy
              · exact box_cell M9 0 _ rfl
              · exact box_cell M9 2 _ rfl
            have y1 : wq.cell? ⟨wo.heap.size + 1, j * 2 + 1, none⟩ = some (.int .i64 y.start) := by
              have : j = 0 ∨ j = 1 := by omega
              rcases this with rfl | rfl <;> subst hy
              · exact box_cell M9 1 _ rfl
              · exact box_cell M9 3 _ rfl
            have e3 : IntKind.i64.wrap (y.start + x.mx) = y.start + x.mx := by
              have : j = 0 ∨ j = 1 := by omega
              rcases this with rfl | rfl <;> subst hy
              · exact e1
              · exact e2
            have s1 := box_cell hW3.out.1 1 (.int .i64 x.mx) rfl
            clear hy M9
            have HL2 := Lib.hid (show (L ++ (twoB x o).take j).length ≤ 200 by rw [List.length_append, List.length_take]; have := HLn.out; simp [twoB]; omega)
            obtain ⟨U, hU⟩ : ∃ U, U = L ++ (twoB x o).take j := ⟨_, rfl⟩
            have HU := Lib.hid (show L ++ (twoB x o).take (j + 1) = U ++ [⟨y.tool, y.start, y.start + x.mx, o⟩] by rw [HY.out, hU, List.append_assoc])
            rw [← hU] at HR3 HL2 ⊢
            clear hU
            have HB4 := Lib.hid (below_step (below_new wq (.cells #[.int .i64 y.tool, .int .i64 y.start] 43)) (below_new _ (.cells #[.int .i64 y.tool, .int .i64 y.start, .int .i64 (y.start + x.mx), .int .i64 o] 57)))
            have HOwn := Lib.hid (show ((wq.alloc (.cells #[.int .i64 y.tool, .int .i64 y.start] 43)).alloc (.cells #[.int .i64 y.tool, .int .i64 y.start, .int .i64 (y.start + x.mx), .int .i64 o] 57)).ownsRow w.heap.size 57 4 (.slice a1 U.length c1) U.length (U.flatMap pbCells) from own_below HR3.out HB4.out)
            have HNW := Lib.hid (World.news_of_block (w := (wq.alloc (.cells #[.int .i64 y.tool, .int .i64 y.start] 43)).alloc (.cells #[.int .i64 y.tool, .int .i64 y.start, .int .i64 (y.start + x.mx), .int .i64 o] 57)) (B := wq.heap.size + 1) (cs := #[.int .i64 y.tool, .int .i64 y.start, .int .i64 (y.start + x.mx), .int .i64 o]) (t := 57) (fr := (0, 0)) (by have := heap_alloc_new (wq.alloc (.cells #[.int .i64 y.tool, .int .i64 y.start] 43)) (.cells #[.int .i64 y.tool, .int .i64 y.start, .int .i64 (y.start + x.mx), .int .i64 o] 57); rwa [World.size_alloc] at this))
            have hsw := hb3.out.size
            have hl2 := HL2.out
            have j1 : (j : Int) < 2 := by omega
            have j0 : (0 : Int) ≤ (j : Int) := by omega
            have j4 : ((j : Int)).toNat = j := by omega
            have hq1 := lt_of_block hW3.out.1
            have hq2 := lt_of_block hW3.out.2
            go_wp2_with (at_builtin; refine wpList_append_own _ rfl _ _ 59 rfl w.heap.size 57 i0 _ 4 32 Try.underlying59 hi hz0 hz1 hz2 rfl (by decide) _ _ _ rfl HOwn.out ⟨wq.heap.size + 1, 0, none⟩ 1 1 [.int .i64 y.tool, .int .i64 y.start, .int .i64 (y.start + x.mx), .int .i64 o] rfl rfl HNW.out ?c2 ?c3 ?c4 ?c5 ?_)
            case c2 => simp [Value.oneCell']
            case c3 => unfold maxLen; omega
            case c4 => omega
            case c5 => omega
            intro v' w3 hown' hgrow _
            obtain ⟨a', c', rfl, -⟩ := own_slice hown'
            have HE3 := Lib.hid (show Below w.heap.size w w3 from (below_step hb3.out HB4.out).grown hgrow (Nat.le_trans hsw HB4.out.size) (fun kk e => (HR3.out.lt kk e).1))
            have HP3 := Lib.hid (show PbO w3 w.heap.size (.slice a' (U ++ [(⟨y.tool, y.start, y.start + x.mx, o⟩ : Pl.Bk)]).length c') (U ++ [⟨y.tool, y.start, y.start + x.mx, o⟩]) by rw [List.length_append]; exact RowO.snoc hown')
            have HF3 := Lib.hid (show w3.heap[wo.heap.size]? = some (stageObj x) ∧ w3.heap[wo.heap.size + 1]? = some (.cells #[.int .i64 x.m.tool, .int .i64 x.m.start, .int .i64 x.s.tool, .int .i64 x.s.start] 43) by
              have f1 := box_below hW3.out.1 HB4.out
              have f2 := box_below hW3.out.2 HB4.out
              refine ⟨(hgrow.block _ (lt_of_block f1) (fun e => ?_)).trans f1, (hgrow.block _ (lt_of_block f2) (fun e => ?_)).trans f2⟩
              · obtain ⟨cs, hcs⟩ := own_block HOwn.out e.symm
                exact ne_of_k2 hcs f1 (by decide) rfl
              · obtain ⟨cs, hcs⟩ := own_block HOwn.out e.symm
                exact ne_of_k2 hcs f2 (by decide) rfl)
            clear hown' hgrow HOwn HNW y0 y1 s1 hq1 hq2 j0 j1 j4
            go_wp2_with fail
            go_roundw
            case rel => exact ⟨j + 1, a', c', by omega, by rw [HU.out]; simp, by go_num, Lib.hid (by rw [HU.out]; exact HP3.out), HE3, HF3⟩
            case measure => simp [intOf]; omega
          · have HT2 := Lib.hid (show L ++ (twoB x o).take j = Pl.books (st.take (k + 1)) o by rw [HS.out, List.take_of_length_le (by simp [twoB]; omega)])
            have j1 : ¬ (j : Int) < 2 := by omega
            rw [HT2.out] at HR3
            go_wp2_with fail
            go_roundw
            case rel => exact ⟨k + 1, a1, c1, by omega, by rw [HT2.out], by go_num, HR3, hb3⟩
            case measure => simp [intOf]; omega
      · have HT := Lib.hid (show st.take k = st by rw [List.take_of_length_le (by omega)])
        rw [HT.out] at HR
        have HEB := Lib.hid (show Pl.bookings ⟨en, mi, ma, st, wn⟩ o = Pl.books st o from HE.out.1)
        go_wp2_with fail
        go_ret
        unfold BksPost
        rw [HEB.out]
        exact ⟨a, c, by show Ending.returned (.slice a (Pl.books (st.take k) o).length c) = _; rw [HT.out], HR.out, hb.out⟩
end Go.Proofs.Ytngpkipblcihaaa
