/-
  Contracts of slices.Equal at stages and windows, of the reference's SameVisits, of Same.
  The contract of Bookings.
  A plan, a scenario, and another one that is changed; how a scenario's failure is changed on paper, and its moves.
  A plan that is later by some minutes, on paper and in memory.
  A calendar that is known by its pointer alone, while other memory is kept; on paper: what bookings made one after the other come to.
-/
import Derived.Test.YtihohjgjklcnlaaDoorQCa
import Derived.Test.YtihohjgjklcnlaaDoorQBd
import Derived.Deep.AppendLies
import Derived.Test.YtihohjgjklcnlaaDoorQBg
import Derived.Test.YtihohjgjklcnlaaDoorQKB2
namespace Go.Proofs.YtihohjgjklcnlaaDoor
open Go.RowKit

theorem list_drop_eq {α : Type} [DecidableEq α] (P Q : List α) (k : Nat) (h1 : k < P.length) (h2 : k < Q.length) : decide (P.drop k = Q.drop k) = (decide (P[k] = Q[k]) && decide (P.drop (k + 1) = Q.drop (k + 1))) := by
  have e1 : P.drop k = P[k] :: P.drop (k + 1) := List.drop_eq_getElem_cons h1
  have e2 : Q.drop k = Q[k] :: Q.drop (k + 1) := List.drop_eq_getElem_cons h2
  rw [Bool.eq_iff_iff, Bool.and_eq_true, decide_eq_true_eq, decide_eq_true_eq, decide_eq_true_eq, e1, e2, List.cons.injEq]
set_option maxRecDepth 100000 in
set_option maxHeartbeats 2000000 in
theorem equalWindows_any (P Q : List Pl.Win) (a b : Option Addr) (c d : Nat) (w : World) (hP : WnA w a c P) (hQ : WnA w b d Q) :
    Calls Tryd.prog 50 #[.slice a P.length c, .slice b Q.length d] w fun e w' => e = .returned (.bool (decide (P = Q))) ∧ Below w.heap.size w w' := by
  have l1 := hP.len
  have l2 := hQ.len
  unfold maxLen at l1 l2
  have HP := Lib.hid hP; have HQ := Lib.hid hQ; clear hP hQ
  by_cases hn : P.length = Q.length
  · have hn' : ((P.length : Int) != (Q.length : Int)) = false := by simp [hn]
    have HN := Lib.hid hn; clear hn
    go_enter Tryd.func50, Tryd.ntmps50
    go_wp2_with fail
    clear hn'
    go_loopw [13] (fun i wr => ∃ (k : Nat), k ≤ P.length ∧ i = .int .i64 (k : Int) ∧ Hid (Below w.heap.size w wr) ∧ Hid (decide (P.drop k = Q.drop k) = decide (P = Q))) (fun i _ => P.length - (intOf i).toNat)
    case atStart => exact ⟨0, Nat.zero_le _, rfl, Lib.hid (Below.refl _ _), Lib.hid rfl⟩
    case round =>
      obtain ⟨k, hk, rfl, hb, hh⟩ := hrel
      by_cases hlt : k < P.length
      · have hlt2 : k < Q.length := by have := HN.out; omega
        have HE := Lib.hid (list_drop_eq P Q k hlt hlt2)
        obtain ⟨b1, o1, rfl, hb1, h1⟩ := (HP.out.below hb.out).2.2 k hlt
        obtain ⟨b2, o2, rfl, hb2, h2⟩ := (HQ.out.below hb.out).2.2 k hlt2
        obtain ⟨c0, c1, c2⟩ := wn_cells h1
        obtain ⟨d0, d1, d2⟩ := wn_cells h2
        have i1 : (0 : Int) ≤ (k : Int) := by omega
        have i2 : (k : Int) < (P.length : Int) := by omega
        have i3 : (k : Int) < (Q.length : Int) := by omega
        have i4 : ((k : Int)).toNat = k := by omega
        clear h1 h2
        generalize P[k] = p at *
        generalize Q[k] = r at *
        by_cases hpr : p = r
        · subst hpr
          go_wp2_with fail
          go_quiet (fail)
          clear i1 i2 i3 i4
          go_wp2_with fail
          go_roundw
          case rel => exact ⟨k + 1, by omega, by go_num, Lib.hid (below_drewN hb.out _), Lib.hid (by rw [← hh.out, HE.out]; simp)⟩
          case measure => simp [intOf]; omega
        · have HF := Lib.hid (show decide (P = Q) = false by rw [← hh.out, HE.out]; simp [hpr])
          obtain ⟨x0, x1, x2⟩ := p
          obtain ⟨y0, y1, y2⟩ := r
          simp only at c0 c1 c2 d0 d1 d2
          by_cases h0 : x0 = y0
          rotate_left
          · clear hpr
            go_wp2_with fail
            go_quiet (fail)
            go_wp2_with fail
            go_ret
            exact ⟨ret_bool HF.out.symm, below_drewN hb.out _⟩
          subst h0
          by_cases h1 : x1 = y1
          rotate_left
          · clear hpr
            go_wp2_with fail
            go_quiet (fail)
            go_wp2_with fail
            go_ret
            exact ⟨ret_bool HF.out.symm, below_drewN hb.out _⟩
          subst h1
          have h2 : ¬ x2 = y2 := fun e => hpr (by rw [e])
          clear hpr
          go_wp2_with fail
          go_quiet (fail)
          go_wp2_with fail
          go_ret
          exact ⟨ret_bool HF.out.symm, below_drewN hb.out _⟩
      · have HF := Lib.hid (show decide (P = Q) = true by
          rw [← hh.out, List.drop_of_length_le (by omega), List.drop_of_length_le (by have := HN.out; omega)]; simp)
        go_wp2_with fail
        go_ret
        exact ⟨ret_bool HF.out.symm, hb.out⟩
  · have hn' : ((P.length : Int) != (Q.length : Int)) = true := by rw [bne_iff_ne]; omega
    have HF := Lib.hid (show decide (P = Q) = false by rw [decide_eq_false_iff_not]; intro h; exact hn (by rw [h]))
    clear hn
    go_enter Tryd.func50, Tryd.ntmps50
    go_wp2_with fail
    go_ret
    exact ⟨ret_bool HF.out.symm, Below.refl _ _⟩
set_option maxRecDepth 100000 in
set_option maxHeartbeats 2000000 in
theorem equalStages_any (P Q : List Pl.Stage) (a b : Option Addr) (c d : Nat) (w : World) (hP : StA w a c P) (hQ : StA w b d Q) :
    Calls Tryd.prog 49 #[.slice a P.length c, .slice b Q.length d] w fun e w' => e = .returned (.bool (decide (P = Q))) ∧ Below w.heap.size w w' := by
  have l1 := hP.len
  have l2 := hQ.len
  unfold maxLen at l1 l2
  have HP := Lib.hid hP; have HQ := Lib.hid hQ; clear hP hQ
  by_cases hn : P.length = Q.length
  · have hn' : ((P.length : Int) != (Q.length : Int)) = false := by simp [hn]
    have HN := Lib.hid hn; clear hn
    go_enter Tryd.func49, Tryd.ntmps49
    go_wp2_with fail
    clear hn'
    go_loopw [13] (fun i wr => ∃ (k : Nat), k ≤ P.length ∧ i = .int .i64 (k : Int) ∧ Hid (Below w.heap.size w wr) ∧ Hid (decide (P.drop k = Q.drop k) = decide (P = Q))) (fun i _ => P.length - (intOf i).toNat)
    case atStart => exact ⟨0, Nat.zero_le _, rfl, Lib.hid (Below.refl _ _), Lib.hid rfl⟩
    case round =>
      obtain ⟨k, hk, rfl, hb, hh⟩ := hrel
      by_cases hlt : k < P.length
      · have hlt2 : k < Q.length := by have := HN.out; omega
        have HE := Lib.hid (list_drop_eq P Q k hlt hlt2)
        obtain ⟨b1, o1, rfl, hb1, h1⟩ := (HP.out.below hb.out).2.2 k hlt
        obtain ⟨b2, o2, rfl, hb2, h2⟩ := (HQ.out.below hb.out).2.2 k hlt2
        obtain ⟨c0, c1, c2, c3, c4, c5⟩ := st_cells h1
        obtain ⟨d0, d1, d2, d3, d4, d5⟩ := st_cells h2
        have i1 : (0 : Int) ≤ (k : Int) := by omega
        have i2 : (k : Int) < (P.length : Int) := by omega
        have i3 : (k : Int) < (Q.length : Int) := by omega
        have i4 : ((k : Int)).toNat = k := by omega
        clear h1 h2
        generalize P[k] = p at *
        generalize Q[k] = r at *
        by_cases hpr : p = r
        · subst hpr
          go_wp2_with fail
          go_quiet (fail)
          clear i1 i2 i3 i4
          go_wp2_with fail
          go_roundw
          case rel => exact ⟨k + 1, by omega, by go_num, Lib.hid (below_drewN hb.out _), Lib.hid (by rw [← hh.out, HE.out]; simp)⟩
          case measure => simp [intOf]; omega
        · have HF := Lib.hid (show decide (P = Q) = false by rw [← hh.out, HE.out]; simp [hpr])
          obtain ⟨x0, x1, ⟨x2, x3⟩, ⟨x4, x5⟩⟩ := p
          obtain ⟨y0, y1, ⟨y2, y3⟩, ⟨y4, y5⟩⟩ := r
          simp only at c0 c1 c2 c3 c4 c5 d0 d1 d2 d3 d4 d5
          by_cases h0 : x0 = y0
          rotate_left
          · clear hpr
            go_wp2_with fail
            go_quiet (fail)
            go_wp2_with fail
            go_ret
            exact ⟨ret_bool HF.out.symm, below_drewN hb.out _⟩
          subst h0
          by_cases h1 : x1 = y1
          rotate_left
          · clear hpr
            go_wp2_with fail
            go_quiet (fail)
            go_wp2_with fail
            go_ret
            exact ⟨ret_bool HF.out.symm, below_drewN hb.out _⟩
          subst h1
          by_cases h2 : x2 = y2
          rotate_left
          · clear hpr
            go_wp2_with fail
            go_quiet (fail)
            go_wp2_with fail
            go_ret
            exact ⟨ret_bool HF.out.symm, below_drewN hb.out _⟩
          subst h2
          by_cases h3 : x3 = y3
          rotate_left
          · clear hpr
            go_wp2_with fail
            go_quiet (fail)
            go_wp2_with fail
            go_ret
            exact ⟨ret_bool HF.out.symm, below_drewN hb.out _⟩
          subst h3
          by_cases h4 : x4 = y4
          rotate_left
          · clear hpr
            go_wp2_with fail
            go_quiet (fail)
            go_wp2_with fail
            go_ret
            exact ⟨ret_bool HF.out.symm, below_drewN hb.out _⟩
          subst h4
          have h5 : ¬ x5 = y5 := fun e => hpr (by rw [e])
          clear hpr
          go_wp2_with fail
          go_quiet (fail)
          go_wp2_with fail
          go_ret
          exact ⟨ret_bool HF.out.symm, below_drewN hb.out _⟩
      · have HF := Lib.hid (show decide (P = Q) = true by
          rw [← hh.out, List.drop_of_length_le (by omega), List.drop_of_length_le (by have := HN.out; omega)]; simp)
        go_wp2_with fail
        go_ret
        exact ⟨ret_bool HF.out.symm, hb.out⟩
  · have hn' : ((P.length : Int) != (Q.length : Int)) = true := by rw [bne_iff_ne]; omega
    have HF := Lib.hid (show decide (P = Q) = false by rw [decide_eq_false_iff_not]; intro h; exact hn (by rw [h]))
    clear hn
    go_enter Tryd.func49, Tryd.ntmps49
    go_wp2_with fail
    go_ret
    exact ⟨ret_bool HF.out.symm, Below.refl _ _⟩
theorem plan_eq (p q : Pl.Plan) : decide (p = q) = ((p.entry == q.entry) && (p.mmin == q.mmin) && (p.mmax == q.mmax) && decide (p.st = q.st) && decide (p.wn = q.wn)) := by
  cases p; cases q
  rw [Bool.eq_iff_iff]
  simp [and_assoc]
set_option maxRecDepth 100000 in
set_option maxHeartbeats 2000000 in
theorem Same_any (q r : PlanP) (w : World) (h : q.ok w) (hr : r.ok w) : Calls Tryd.prog 22 #[q.val, r.val] w fun e w' => e = .returned (.bool (decide (q.p = r.p))) ∧ Below w.heap.size w w' := by
  rw [plan_eq]
  have HG := Lib.hid (below_step (below_new w (planObj q)) (below_new (w.alloc (planObj q)) (planObj r)))
  have hn1 : ((w.alloc (planObj q)).alloc (planObj r)).heap[w.heap.size]? = some (planObj q) := box_below (heap_alloc_new _ _) (below_new _ _)
  have hn2 : ((w.alloc (planObj q)).alloc (planObj r)).heap[w.heap.size + 1]? = some (planObj r) := by
    have := heap_alloc_new (w.alloc (planObj q)) (planObj r)
    rw [show (w.alloc (planObj q)).heap.size = w.heap.size + 1 by simp] at this; exact this
  have N1 := Lib.hid hn1; have N2 := Lib.hid hn2; clear hn1 hn2
  have C1 := Lib.hid (fun v (hv : Below w.heap.size w v) => equalStages_any q.p.st r.p.st q.sa r.sa q.sc r.sc v (h.st.below hv) (hr.st.below hv))
  have C2 := Lib.hid (fun v (hv : Below w.heap.size w v) => equalWindows_any q.p.wn r.p.wn q.wa r.wa q.wc r.wc v (h.wn.below hv) (hr.wn.below hv))
  clear h hr
  generalize decide (q.p.st = r.p.st) = B4 at *
  generalize decide (q.p.wn = r.p.wn) = B5 at *
  obtain ⟨⟨en, mi, ma, st, wn⟩, sa, sc, wa, wc⟩ := q
  obtain ⟨⟨en', mi', ma', st', wn'⟩, sa', sc', wa', wc'⟩ := r
  dsimp only [planObj] at N1 N2 HG
  simp only
  generalize e1 : (en == en') = B1 at *
  cases B1
  · go_enter Tryd.func22, Tryd.ntmps22
    go_wp2_with fail
    go_ret
    exact ⟨ret_bool (by simp), HG.out⟩
  generalize e2 : (mi == mi') = B2 at *
  cases B2
  · go_enter Tryd.func22, Tryd.ntmps22
    go_wp2_with fail
    go_ret
    exact ⟨ret_bool (by simp), HG.out⟩
  generalize e3 : (ma == ma') = B3 at *
  cases B3
  · go_enter Tryd.func22, Tryd.ntmps22
    go_wp2_with fail
    go_ret
    exact ⟨ret_bool (by simp), HG.out⟩
  go_enter Tryd.func22, Tryd.ntmps22
  go_wp2_with fail
  refine (C1.out _ HG.out).mono ?_; rintro _ w1 ⟨rfl, g1⟩
  have P1 := Lib.hid (box_below N1.out g1); have Q1 := Lib.hid (box_below N2.out g1); have G1 := Lib.hid (below_step HG.out g1)
  clear g1 N1 N2 HG
  cases B4
  · go_wp2_with fail
    go_ret
    exact ⟨ret_bool (by simp), G1.out⟩
  have c4 := box_cell P1.out 4 (.slice wa wn.length wc) rfl
  have d4 := box_cell Q1.out 4 (.slice wa' wn'.length wc') rfl
  go_wp2_with fail
  refine (C2.out _ G1.out).mono ?_; rintro _ w2 ⟨rfl, g2⟩
  have G2 := Lib.hid (below_step G1.out g2); clear g2
  go_wp2_with fail
  go_ret
  exact ⟨ret_bool (by simp), G2.out⟩
end Go.Proofs.YtihohjgjklcnlaaDoor

namespace Go.Proofs.YtihohjgjklcnlaaDoor
open Go.RowKit

theorem ne_of_k2 {w : World} {i j : Nat} {cs ds : Array Value} {t u : TypeId} (h1 : w.heap[i]? = some (.cells cs t)) (h2 : w.heap[j]? = some (.cells ds u)) (h : t ≠ u) : i ≠ j := by
  rintro rfl; rw [h1] at h2; injection h2 with h2; injection h2 with _ h2; exact h h2
theorem info_bk : (Tryd.prog.info? 73).map (fun i => (i.zero, i.size, i.bytes)) = some (some (.agg #[.int .i64 0, .int .i64 0, .int .i64 0, .int .i64 0]), 4, 32) := by kernel_rfl
def twoB (x : Pl.Stage) (o : Int) : List Pl.Bk := [⟨x.m.tool, x.m.start, x.m.start + x.mx, o⟩, ⟨x.s.tool, x.s.start, x.s.start + x.mx, o⟩]
theorem books_eq (l : List Pl.Stage) (o : Int) : Pl.books l o = l.flatMap (fun x => twoB x o) := rfl
theorem books_snoc (l : List Pl.Stage) (o : Int) (k : Nat) (h : k < l.length) : Pl.books (l.take (k + 1)) o = Pl.books (l.take k) o ++ twoB l[k] o := by
  rw [List.take_succ_eq_append_getElem h, books_eq, List.flatMap_append]; simp [books_eq]
theorem books_len (l : List Pl.Stage) (o : Int) : (Pl.books l o).length = 2 * l.length := by
  rw [books_eq]; induction l with
  | nil => rfl
  | cons x l ih => rw [List.flatMap_cons, List.length_append, ih]; simp [twoB]; omega
def BksPost (p : Pl.Plan) (o : Int) (w : World) (e : Ending) (w' : World) : Prop :=
  ∃ a c, e = .returned (.slice a (Pl.bookings p o).length c) ∧ PbO w' w.heap.size (.slice a (Pl.bookings p o).length c) (Pl.bookings p o) ∧ Below w.heap.size w w'
theorem bks_none {p : Pl.Plan} {o : Int} {w w' : World} (h : Pl.bookings p o = []) (hb : Below w.heap.size w w') : BksPost p o w (.returned (.slice none 0 0)) w' := by
  unfold BksPost; rw [h]; exact ⟨none, 0, rfl, RowO.nil _ _ _ _ _, hb⟩
set_option maxRecDepth 100000 in
set_option maxHeartbeats 4000000 in
theorem Bookings_any (q : PlanP) (o : Int) (w : World) (h : q.ok w) : Calls Tryd.prog 25 #[q.val, .int .i64 o] w (BksPost q.p o w) := by
  have HV := Lib.hid (fun v (hv : Below w.heap.size w v) => Valid_any q v (h.below hv))
  have HW := Lib.hid (within_any o 1 1000000)
  have HG := Lib.hid (below_new w (planObj q))
  have HN := Lib.hid (heap_alloc_new w (planObj q))
  have HQ := Lib.hid h
  have ls := h.st.len
  unfold maxLen at ls
  clear h
  have HB0 := Lib.hid (show (Pl.valid q.p && Pl.within o 1 1000000) = false → Pl.bookings q.p o = [] from fun h => by unfold Pl.bookings; rw [h]; rfl)
  have HB1 := Lib.hid (show Pl.valid q.p = true → Pl.within o 1 1000000 = true → Pl.bookings q.p o = Pl.books q.p.st o ∧ Pl.Valid q.p from fun h1 h2 => by unfold Pl.bookings; rw [h1, h2]; exact ⟨rfl, Pl.valid_iff.1 h1⟩)
  generalize Pl.valid q.p = B1 at *
  generalize Pl.within o 1 1000000 = B2 at *
  obtain ⟨⟨en, mi, ma, st, wn⟩, sa, sc, wa, wc⟩ := q
  simp only at ls
  dsimp only [planObj] at HG HN
  cases B1
  · have HE := Lib.hid (HB0.out rfl)
    clear HB0 HB1
    go_enter Tryd.func25, Tryd.ntmps25
    go_wp2_with fail
    refine (HV.out _ HG.out).mono ?_; rintro _ w1 ⟨rfl, g1⟩
    have G1 := Lib.hid (below_step HG.out g1); clear g1
    go_wp2_with fail
    go_ret
    exact bks_none HE.out G1.out
  cases B2
  · have HE := Lib.hid (HB0.out rfl)
    clear HB0 HB1
    go_enter Tryd.func25, Tryd.ntmps25
    go_wp2_with fail
    refine (HV.out _ HG.out).mono ?_; rintro _ w1 ⟨rfl, g1⟩
    have G1 := Lib.hid (below_step HG.out g1); clear g1
    go_wp2_with fail
    refine (HW.out _).mono ?_; rintro _ w2 ⟨rfl, rfl⟩
    go_wp2_with fail
    go_ret
    exact bks_none HE.out G1.out
  · have HE := Lib.hid (HB1.out rfl rfl)
    clear HB0 HB1
    go_enter Tryd.func25, Tryd.ntmps25
    go_wp2_with fail
    generalize w.alloc (.cells #[.int .i64 en, .int .i64 mi, .int .i64 ma, .slice sa st.length sc, .slice wa wn.length wc] 28) = W at *
    refine (HV.out _ HG.out).mono ?_; rintro _ w1 ⟨rfl, g1⟩
    have G1 := Lib.hid (below_step HG.out g1)
    have N1 := Lib.hid (box_below HN.out g1); clear g1 HN HG
    go_wp2_with fail
    refine (HW.out _).mono ?_; rintro _ w2 ⟨rfl, rfl⟩
    have d3 := box_cell N1.out 3 (.slice sa st.length sc) rfl
    go_wp2_with fail
    clear d3
    obtain ⟨i0, hi, hz0, hz1, hz2⟩ := info_parts info_bk
    go_loopw [5, 21] (fun v i wr => ∃ (k : Nat) (a : Option Addr) (c : Nat), k ≤ st.length ∧ v = .slice a (Pl.books (st.take k) o).length c ∧ i = .int .i64 (k : Int) ∧ Hid (PbO wr w.heap.size (.slice a (Pl.books (st.take k) o).length c) (Pl.books (st.take k) o)) ∧ Hid (Below w.heap.size w wr)) (fun _ i _ => st.length - (intOf i).toNat)
    case atStart => exact ⟨0, none, 0, Nat.zero_le _, rfl, rfl, Lib.hid (RowO.nil _ _ _ _ _), G1⟩
    case round =>
      obtain ⟨k, a, c, hk, rfl, rfl, HR, hb⟩ := hrel
      by_cases hlt : k < st.length
      · obtain ⟨b, off, rfl, hbb, h1⟩ := (HQ.out.st.below hb.out).2.2 k hlt
        obtain ⟨c0, c1, c2, c3, c4, c5⟩ := st_cells h1
        have HX := Lib.hid (HE.out.2.st st[k] (List.getElem_mem hlt))
        have HS := Lib.hid (books_snoc st o k hlt)
        have HLn := Lib.hid (show (Pl.books (st.take k) o).length ≤ 100 by rw [books_len, List.length_take]; have := HE.out.2.len; simp only at this; omega)
        clear h1
        generalize st[k] = x at *
        generalize Pl.books (st.take k) o = L at *
        have e1 : IntKind.i64.wrap (x.m.start + x.mx) = x.m.start + x.mx := IntWalk.i64_in _ (by have h1 := HX.out.ms; have h2 := HX.out.mn; have h3 := HX.out.mx; omega)
        have e2 : IntKind.i64.wrap (x.s.start + x.mx) = x.s.start + x.mx := IntWalk.i64_in _ (by have h1 := HX.out.ss; have h2 := HX.out.mn; have h3 := HX.out.mx; omega)
        have HW2 := Lib.hid (below_step (below_new wr (.cells #[.int .i64 x.mn, .int .i64 x.mx, .int .i64 x.m.tool, .int .i64 x.m.start, .int .i64 x.s.tool, .int .i64 x.s.start] 45)) (below_new _ (.cells #[.int .i64 x.m.tool, .int .i64 x.m.start, .int .i64 x.s.tool, .int .i64 x.s.start] 43)))
        have N7 := Lib.hid (box_below (heap_alloc_new wr (.cells #[.int .i64 x.mn, .int .i64 x.mx, .int .i64 x.m.tool, .int .i64 x.m.start, .int .i64 x.s.tool, .int .i64 x.s.start] 45)) (below_new (wr.alloc (.cells #[.int .i64 x.mn, .int .i64 x.mx, .int .i64 x.m.tool, .int .i64 x.m.start, .int .i64 x.s.tool, .int .i64 x.s.start] 45)) (.cells #[.int .i64 x.m.tool, .int .i64 x.m.start, .int .i64 x.s.tool, .int .i64 x.s.start] 43)))
        have N9 := heap_alloc_new (wr.alloc (.cells #[.int .i64 x.mn, .int .i64 x.mx, .int .i64 x.m.tool, .int .i64 x.m.start, .int .i64 x.s.tool, .int .i64 x.s.start] 45)) (.cells #[.int .i64 x.m.tool, .int .i64 x.m.start, .int .i64 x.s.tool, .int .i64 x.s.start] 43)
        rw [show (wr.alloc (.cells #[.int .i64 x.mn, .int .i64 x.mx, .int .i64 x.m.tool, .int .i64 x.m.start, .int .i64 x.s.tool, .int .i64 x.s.start] 45)).heap.size = wr.heap.size + 1 by simp] at N9
        have N9 := Lib.hid N9
        have HR2 := Lib.hid (HR.out.below HW2.out)
        have hb2 := Lib.hid (below_step hb.out HW2.out)
        rename World => wo
        clear HR
        go_wp2_with fail
        generalize (wo.alloc (.cells #[.int .i64 x.mn, .int .i64 x.mx, .int .i64 x.m.tool, .int .i64 x.m.start, .int .i64 x.s.tool, .int .i64 x.s.start] 45)).alloc (.cells #[.int .i64 x.m.tool, .int .i64 x.m.start, .int .i64 x.s.tool, .int .i64 x.s.start] 43) = W2 at *
        clear c0 c1 c2 c3 c4 c5 HW2
        go_loopw [5, 31] (fun v i wq => ∃ (j : Nat) (a' : Option Addr) (c' : Nat), j ≤ 2 ∧ v = .slice a' (L ++ (twoB x o).take j).length c' ∧ i = .int .i64 (j : Int) ∧ Hid (PbO wq w.heap.size (.slice a' (L ++ (twoB x o).take j).length c') (L ++ (twoB x o).take j)) ∧ Hid (Below w.heap.size w wq) ∧ Hid (wq.heap[wo.heap.size]? = some (stageObj x) ∧ wq.heap[wo.heap.size + 1]? = some (.cells #[.int .i64 x.m.tool, .int .i64 x.m.start, .int .i64 x.s.tool, .int .i64 x.s.start] 43))) (fun _ i _ => 2 - (intOf i).toNat)
        case atStart => exact ⟨0, a, c, by omega, by simp, rfl, Lib.hid (by simpa using HR2.out), hb2, Lib.hid ⟨N7.out, N9.out⟩⟩
        case round =>
          obtain ⟨j, a1, c1, hj, rfl, rfl, HR3, hb3, hW3⟩ := hrel
          rename World => wq
          by_cases hj2 : j < 2
          · obtain ⟨y, hy⟩ : ∃ y : Pl.Slot, y = if j = 0 then x.m else x.s := ⟨_, rfl⟩
            have HY := Lib.hid (show (twoB x o).take (j + 1) = (twoB x o).take j ++ [⟨y.tool, y.start, y.start + x.mx, o⟩] by
              have : j = 0 ∨ j = 1 := by omega
              rcases this with rfl | rfl <;> (subst hy; rfl))
            have M9 := hW3.out.2
            have y0 : wq.cell? ⟨wo.heap.size + 1, j * 2, none⟩ = some (.int .i64 y.tool) := by
              have : j = 0 ∨ j = 1 := by omega
              rcases this with rfl | rfl <;> subst hy
              · exact box_cell M9 0 _ rfl
              · exact box_cell M9 2 _ rfl
            have y1 : wq.cell? ⟨wo.heap.size + 1, j * 2 + 1, none⟩ = some (.int .i64 y.start) := by
              have : j = 0 ∨ j = 1 := by omega
              rcases this with rfl | rfl <;> subst hy
              · exact box_cell M9 1 _ rfl
              · exact box_cell M9 3 _ rfl
            have e3 : IntKind.i64.wrap (y.start + x.mx) = y.start + x.mx := by
              have : j = 0 ∨ j = 1 := by omega
              rcases this with rfl | rfl <;> subst hy
              · exact e1
              · exact e2
            have s1 := box_cell hW3.out.1 1 (.int .i64 x.mx) rfl
            clear hy M9
            have HL2 := Lib.hid (show (L ++ (twoB x o).take j).length ≤ 200 by rw [List.length_append, List.length_take]; have := HLn.out; simp [twoB]; omega)
            obtain ⟨U, hU⟩ : ∃ U, U = L ++ (twoB x o).take j := ⟨_, rfl⟩
            have HU := Lib.hid (show L ++ (twoB x o).take (j + 1) = U ++ [⟨y.tool, y.start, y.start + x.mx, o⟩] by rw [HY.out, hU, List.append_assoc])
            rw [← hU] at HR3 HL2 ⊢
            clear hU
            have HB4 := Lib.hid (below_step (below_new wq (.cells #[.int .i64 y.tool, .int .i64 y.start] 43)) (below_new _ (.cells #[.int .i64 y.tool, .int .i64 y.start, .int .i64 (y.start + x.mx), .int .i64 o] 73)))
            have HOwn := Lib.hid (show ((wq.alloc (.cells #[.int .i64 y.tool, .int .i64 y.start] 43)).alloc (.cells #[.int .i64 y.tool, .int .i64 y.start, .int .i64 (y.start + x.mx), .int .i64 o] 73)).ownsRow w.heap.size 73 4 (.slice a1 U.length c1) U.length (U.flatMap pbCells) from own_below HR3.out HB4.out)
            have HNW := Lib.hid (World.news_of_block (w := (wq.alloc (.cells #[.int .i64 y.tool, .int .i64 y.start] 43)).alloc (.cells #[.int .i64 y.tool, .int .i64 y.start, .int .i64 (y.start + x.mx), .int .i64 o] 73)) (B := wq.heap.size + 1) (cs := #[.int .i64 y.tool, .int .i64 y.start, .int .i64 (y.start + x.mx), .int .i64 o]) (t := 73) (fr := (0, 0)) (by have := heap_alloc_new (wq.alloc (.cells #[.int .i64 y.tool, .int .i64 y.start] 43)) (.cells #[.int .i64 y.tool, .int .i64 y.start, .int .i64 (y.start + x.mx), .int .i64 o] 73); rwa [World.size_alloc] at this))
            have hsw := hb3.out.size
            have hl2 := HL2.out
            have j1 : (j : Int) < 2 := by omega
            have j0 : (0 : Int) ≤ (j : Int) := by omega
            have j4 : ((j : Int)).toNat = j := by omega
            have hq1 := lt_of_block hW3.out.1
            have hq2 := lt_of_block hW3.out.2
            go_wp2_with (at_builtin; refine wpList_append_own _ rfl _ _ 70 rfl w.heap.size 73 i0 _ 4 32 Tryd.underlying70 hi hz0 hz1 hz2 rfl (by decide) _ _ _ rfl HOwn.out ⟨wq.heap.size + 1, 0, none⟩ 1 1 [.int .i64 y.tool, .int .i64 y.start, .int .i64 (y.start + x.mx), .int .i64 o] rfl rfl HNW.out ?c2 ?c3 ?c4 ?c5 ?_)
            case c2 => simp [Value.oneCell']
            case c3 => unfold maxLen; omega
            case c4 => omega
            case c5 => omega
            intro v' w3 hown' hgrow _
            obtain ⟨a', c', rfl, -⟩ := own_slice hown'
            have HE3 := Lib.hid (show Below w.heap.size w w3 from (below_step hb3.out HB4.out).grown hgrow (Nat.le_trans hsw HB4.out.size) (fun kk e => (HR3.out.lt kk e).1))
            have HP3 := Lib.hid (show PbO w3 w.heap.size (.slice a' (U ++ [(⟨y.tool, y.start, y.start + x.mx, o⟩ : Pl.Bk)]).length c') (U ++ [⟨y.tool, y.start, y.start + x.mx, o⟩]) by rw [List.length_append]; exact RowO.snoc hown')
            have HF3 := Lib.hid (show w3.heap[wo.heap.size]? = some (stageObj x) ∧ w3.heap[wo.heap.size + 1]? = some (.cells #[.int .i64 x.m.tool, .int .i64 x.m.start, .int .i64 x.s.tool, .int .i64 x.s.start] 43) by
              have f1 := box_below hW3.out.1 HB4.out
              have f2 := box_below hW3.out.2 HB4.out
              refine ⟨(hgrow.block _ (lt_of_block f1) (fun e => ?_)).trans f1, (hgrow.block _ (lt_of_block f2) (fun e => ?_)).trans f2⟩
              · obtain ⟨cs, hcs⟩ := own_block HOwn.out e.symm
                exact ne_of_k2 hcs f1 (by decide) rfl
              · obtain ⟨cs, hcs⟩ := own_block HOwn.out e.symm
                exact ne_of_k2 hcs f2 (by decide) rfl)
            clear hown' hgrow HOwn HNW y0 y1 s1 hq1 hq2 j0 j1 j4
            go_wp2_with fail
            go_roundw
            case rel => exact ⟨j + 1, a', c', by omega, by rw [HU.out]; simp, by go_num, Lib.hid (by rw [HU.out]; exact HP3.out), HE3, HF3⟩
            case measure => simp [intOf]; omega
          · have HT2 := Lib.hid (show L ++ (twoB x o).take j = Pl.books (st.take (k + 1)) o by rw [HS.out, List.take_of_length_le (by simp [twoB]; omega)])
            have j1 : ¬ (j : Int) < 2 := by omega
            rw [HT2.out] at HR3
            go_wp2_with fail
            go_roundw
            case rel => exact ⟨k + 1, a1, c1, by omega, by rw [HT2.out], by go_num, HR3, hb3⟩
            case measure => simp [intOf]; omega
      · have HT := Lib.hid (show st.take k = st by rw [List.take_of_length_le (by omega)])
        rw [HT.out] at HR
        have HEB := Lib.hid (show Pl.bookings ⟨en, mi, ma, st, wn⟩ o = Pl.books st o from HE.out.1)
        go_wp2_with fail
        go_ret
        unfold BksPost
        rw [HEB.out]
        exact ⟨a, c, by show Ending.returned (.slice a (Pl.books (st.take k) o).length c) = _; rw [HT.out], HR.out, hb.out⟩
end Go.Proofs.YtihohjgjklcnlaaDoor

namespace Go.Proofs.YtihohjgjklcnlaaDoor
open Go.RowKit

structure Mem2 (W : World) (B np ns nt : Nat) (q : PlanP) (r t : ScenP) (w : World) : Prop where
  p : PlIs B np q w
  s : ScIs B ns r w
  t : ScM B nt t w
  bel : Below W.heap.size W w
  lo : W.heap.size ≤ B
theorem Mem2.below {W : World} {B np ns nt : Nat} {q : PlanP} {r t : ScenP} {w w' : World} (h : Mem2 W B np ns nt q r t w) (hb : Below w.heap.size w w') : Mem2 W B np ns nt q r t w' :=
  ⟨h.p.below hb, h.s.below hb, h.t.below hb, below_step h.bel hb, h.lo⟩
theorem Mem2.upd {W : World} {B np ns nt : Nat} {q : PlanP} {r t t' : ScenP} {w w' : World} (h : Mem2 W B np ns nt q r t w) {S : Nat → Prop} (k : ScM B nt t' w' ∧ Ch S w w') (hS : ∀ k, S k → B ≤ k) : Mem2 W B np ns nt q r t' w' :=
  ⟨h.p.ch k.2 hS, h.s.ch k.2 hS, k.1, h.bel.trans (k.2.below h.bel.size (fun k hk => Nat.le_trans h.lo (hS k hk))), h.lo⟩
/-- A number of the scenario in the box. -/
theorem Mem2.num {W : World} {B np ns nt : Nat} {q : PlanP} {r : ScenP} {du mv : List Int} {de tl at_ : Int} {da ma : Option Addr} {dc mc : Nat} {w : World} (h : Mem2 W B np ns nt q r ⟨⟨du, mv, de, tl, at_⟩, da, dc, ma, mc⟩ w) {de' tl' at' : Int} {o : Nat} {u : Value}
    (hu : (#[.slice da du.length dc, .slice ma mv.length mc, .int .i64 de, .int .i64 tl, .int .i64 at_] : Array Value).setIfInBounds o u = #[.slice da du.length dc, .slice ma mv.length mc, .int .i64 de', .int .i64 tl', .int .i64 at']) :
    Mem2 W B np ns nt q r ⟨⟨du, mv, de', tl', at'⟩, da, dc, ma, mc⟩ (w.setCell ⟨nt, o, none⟩ u) := h.upd (h.t.num hu) (fun k hk => by have := h.t.hi; omega)
theorem Mem2.move {W : World} {B np ns nt : Nat} {q : PlanP} {r : ScenP} {du mv : List Int} {de tl at_ : Int} {da ma : Option Addr} {dc mc : Nat} {w : World} (h : Mem2 W B np ns nt q r ⟨⟨du, mv, de, tl, at_⟩, da, dc, ma, mc⟩ w) {i : Nat} (hi : i < mv.length) (x : Int) {g : Nat} (hg : ma = some ⟨g, 0, none⟩) :
    Mem2 W B np ns nt q r ⟨⟨du, mv.set i x, de, tl, at_⟩, da, dc, ma, mc⟩ (w.setCell ⟨g, 0 + i * 1 + 0, none⟩ (.int .i64 x)) := h.upd (h.t.move hi x hg) (fun k hk => by have := h.t.mr.lt _ hg; simp only at this; omega)
/-- The beginning: a plan in its box, two scenarios from Chosen. -/
theorem Mem2.new {W w3 w4 w5 w6 : World} {n8 : Nat} {q : PlanP} {r t : ScenP} (hp : PlIs w3.heap.size n8 q w3) (hb3 : Below W.heap.size W w3)
    (d1 : IntsO w4 w3.heap.size (.slice r.da r.s.dur.length r.dc) r.s.dur) (d2 : IntsO w4 w3.heap.size (.slice r.ma r.s.mv.length r.mc) r.s.mv) (d3 : ∀ b, (Value.slice r.da r.s.dur.length r.dc).ownBlock = some b → (Value.slice r.ma r.s.mv.length r.mc).ownBlock ≠ some b) (g4 : Below w3.heap.size w3 w4)
    (h5 : w5 = w4.alloc (scenObj r))
    (e1 : IntsO w6 w5.heap.size (.slice t.da t.s.dur.length t.dc) t.s.dur) (e2 : IntsO w6 w5.heap.size (.slice t.ma t.s.mv.length t.mc) t.s.mv) (e3 : ∀ b, (Value.slice t.da t.s.dur.length t.dc).ownBlock = some b → (Value.slice t.ma t.s.mv.length t.mc).ownBlock ≠ some b) (g6 : Below w5.heap.size w5 w6) :
    Mem2 W w5.heap.size n8 w4.heap.size w6.heap.size q r t (w6.alloc (scenObj t)) := by
  have hb4 : Below w4.heap.size w4 w5 := by rw [h5]; exact below_new _ _
  have hs : ScM w3.heap.size w4.heap.size r w5 := by rw [h5]; exact ScM.new d1 d2 d3 g4.size
  have hb6 := below_step g6 (below_new w6 (scenObj t))
  have hb5 := below_step g4 hb4
  exact ⟨((hp.below hb5).mono hb5.size).below hb6, hs.is.below hb6, ScM.new e1 e2 e3 g6.size, below_step (below_step hb3 hb5) hb6, Nat.le_trans hb3.size hb5.size⟩

/-! ### on paper -/
/-- A failure that no main slot meets makes no difference. -/
theorem Pl.run_fail {p : Pl.Plan} {s : Pl.Scen} {tl at_ : Int} (hv : Pl.Valid p) (h1 : s.tool = -1) (h2 : ∀ i (h : i < p.st.length), p.st[i].m.tool = tl → p.st[i].m.start + s.dur.getD i 0 ≤ at_) : Pl.run p ⟨s.dur, s.mv, s.det, tl, at_⟩ = Pl.run p s := by
  refine Pl.run_same (s := s) (s' := ⟨s.dur, s.mv, s.det, tl, at_⟩) rfl p.st 0 p.entry [] (fun k hk t => ?_)
  rw [Nat.zero_add]
  have h3 := (hv.st p.st[k] (List.getElem_mem hk)).mt
  have h4 := h2 k hk
  unfold Pl.slot Pl.loses
  have e1 : (decide (s.tool = p.st[k].m.tool) && decide (s.at_ < p.st[k].m.start + s.dur.getD k 0)) = false := by rw [decide_eq_false (by omega)]; rfl
  have e2 : (decide (tl = p.st[k].m.tool) && decide (at_ < p.st[k].m.start + s.dur.getD k 0)) = false := by
    by_cases e : tl = p.st[k].m.tool
    · rw [decide_eq_false (p := at_ < p.st[k].m.start + s.dur.getD k 0) (by have := h4 e.symm; omega), Bool.and_false]
    · rw [decide_eq_false e]; rfl
  simp only [e1, e2]
  rfl
theorem Pl.fail_poss {p : Pl.Plan} {s : Pl.Scen} {tl at_ : Int} (h : Pl.Poss p s) (h1 : 0 ≤ tl ∧ tl ≤ 59) (h2 : 0 ≤ at_ ∧ at_ ≤ 1000000) : Pl.Poss p ⟨s.dur, s.mv, s.det, tl, at_⟩ := ⟨h.v, h.dlen, h.dur, h.mlen, h.mv, h.det, .inr ⟨h1, h2⟩⟩
/-- Moves and a detour that are shorter. -/
theorem Pl.short_poss {p : Pl.Plan} {s : Pl.Scen} {mv : List Int} {de : Int} (h : Pl.Poss p s) (h1 : mv.length = s.mv.length) (h2 : ∀ i, i < p.st.length → p.mmin ≤ mv.getD i 0 ∧ mv.getD i 0 ≤ s.mv.getD i 0) (h3 : p.mmin ≤ de ∧ de ≤ s.det) : Pl.Poss p ⟨s.dur, mv, de, s.tool, s.at_⟩ :=
  ⟨h.v, h.dlen, h.dur, h1.trans h.mlen, fun i hi => by have := h2 i hi; have := h.mv i hi; show _ ≤ mv.getD i 0 ∧ mv.getD i 0 ≤ _; omega, by have := h.det; show _ ≤ de ∧ de ≤ _; omega, h.fail⟩
theorem Pl.run_short {p : Pl.Plan} {s : Pl.Scen} {mv : List Int} {de : Int} (h1 : ∀ i, i < p.st.length → mv.getD i 0 ≤ s.mv.getD i 0) (h3 : de ≤ s.det) (hk : (Pl.run p s).kind = 0) : Pl.run p ⟨s.dur, mv, de, s.tool, s.at_⟩ = Pl.run p s :=
  Pl.run_mono (s := s) (s' := ⟨s.dur, mv, de, s.tool, s.at_⟩) rfl rfl rfl h3 p.st 0 p.entry [] (fun k hk => h1 k (by omega)) hk
end Go.Proofs.YtihohjgjklcnlaaDoor

namespace Go.Proofs.YtihohjgjklcnlaaDoor.Pl

/-- The first k stages are later. -/
def shTo (b : Int) : List Stage → Nat → List Stage
  | [], _ => []
  | x :: l, 0 => x :: l
  | x :: l, k + 1 => shStage b x :: shTo b l k
theorem shTo_len (b : Int) : ∀ (l : List Stage) (k : Nat), (shTo b l k).length = l.length
  | [], _ => rfl
  | _ :: _, 0 => rfl
  | _ :: l, k + 1 => by simp [shTo, shTo_len b l k]
theorem shTo_zero (b : Int) (l : List Stage) : shTo b l 0 = l := by cases l <;> rfl
theorem shTo_at (b : Int) : ∀ (l : List Stage) (k : Nat) (h : k < l.length), (shTo b l k)[k]'(by rw [shTo_len]; exact h) = l[k]
  | [], _, h => absurd h (Nat.not_lt_zero _)
  | _ :: _, 0, _ => rfl
  | _ :: l, k + 1, h => by
    have := shTo_at b l k (by simpa using h)
    simpa [shTo] using this
theorem shTo_set (b : Int) : ∀ (l : List Stage) (k : Nat) (h : k < l.length), (shTo b l k).set k (shStage b l[k]) = shTo b l (k + 1)
  | [], _, h => absurd h (Nat.not_lt_zero _)
  | x :: l, 0, _ => by simp [shTo, shTo_zero]
  | x :: l, k + 1, h => by
    have := shTo_set b l k (by simpa using h)
    simp only [shTo, List.set_cons_succ, List.getElem_cons_succ]
    rw [this]
theorem shTo_all (b : Int) : ∀ (l : List Stage), shTo b l l.length = l.map (shStage b)
  | [] => rfl
  | x :: l => by simp [shTo, shTo_all b l]
theorem fine_entry (X : List (List Int)) : (made X).entry ≤ 100 := (mkMax_bd X).2.2.2.2
theorem sh_valid {p : Plan} (h : Fine p) (he : p.entry ≤ 100) {b : Int} (hb : 0 ≤ b ∧ b < 10000) : Valid (shPlan b p) := by
  have hv := h.v
  refine ⟨?_, hv.mmin, hv.mmax, ?_, fun x hx => ?_, hv.wlen, fun w hw => ?_, ?_⟩
  · have := hv.entry; show 0 ≤ p.entry + b ∧ p.entry + b ≤ _; omega
  · show 1 ≤ (p.st.map _).length ∧ (p.st.map _).length ≤ 8; rw [List.length_map]; exact hv.len
  · obtain ⟨y, hy, rfl⟩ := List.mem_map.1 hx
    have s := h.s y hy
    have s1 := s.mn; have s2 := s.ne; have s3 := s.mt; have s4 := s.st; have s5 := s.ms; have s6 := s.ss
    exact ⟨s1.1, s1.2.1, by show y.mx ≤ _; omega, s2, by show 0 ≤ y.m.tool ∧ y.m.tool ≤ _; omega, by show 0 ≤ y.m.start + b ∧ y.m.start + b ≤ _ - y.mx; omega, by show 0 ≤ y.s.tool ∧ y.s.tool ≤ _; omega, by show 0 ≤ y.s.start + b ∧ y.s.start + b ≤ _ - y.mx; omega⟩
  · show OkWin (p.st.map _).length w; rw [List.length_map]; exact hv.wn w hw
  · show okWinsFrom (p.st.map _).length none p.wn = true; rw [List.length_map]; exact hv.asc
theorem chAt_bd {p : Plan} (h : Fine p) (Y : List (List Int)) (tool at_ : Int) : (chosen p Y tool at_).at_ ≤ 2000 := by
  show chAt p tool at_ ≤ 2000
  unfold chAt
  have hl := h.v.len
  have h1 := h.at (chI_lt h tool)
  have h2 := h.at (show p.st.length - 1 < p.st.length by omega)
  have h3 := h1.mt; have h4 := h1.ms; have h5 := h2.ss
  have q1 := pickZ_bd (c := at_.tdiv 3) (n := 50) (by omega)
  have q2 := pickZ_bd (c := at_) (n := (stAt p (p.st.length - 1)).s.start + 50) (by omega)
  repeat' split
  all_goals omega
theorem sh_poss {p : Plan} {s : Scen} {b a : Int} (hs : Poss p s) (hv : Valid (shPlan b p)) (ha : (s.tool = -1 ∧ a = 0) ∨ (0 ≤ s.tool ∧ 0 ≤ a ∧ a ≤ 1000000)) : Poss (shPlan b p) ⟨s.dur, s.mv, s.det, s.tool, a⟩ := by
  have el : (shPlan b p).st.length = p.st.length := by show (p.st.map _).length = _; rw [List.length_map]
  refine ⟨hv, hs.dlen.trans el.symm, fun i hi => ?_, hs.mlen.trans el.symm, fun i hi => hs.mv i (by omega), hs.det, ?_⟩
  · have hi' : i < p.st.length := by omega
    have e : (shPlan b p).st[i] = shStage b p.st[i] := List.getElem_map _
    rw [e]; exact hs.dur i hi'
  · rcases ha with h | h
    · exact .inl h
    · rcases hs.fail with h2 | h2
      · exact absurd h.1 (by rw [h2.1]; decide)
      · exact .inr ⟨h2.1, h.2⟩
theorem sh_run {p : Plan} {s : Scen} {b a : Int} (hs : Poss p s) (ha : s.tool = -1 ∨ a = s.at_ + b) : run (shPlan b p) ⟨s.dur, s.mv, s.det, s.tool, a⟩ = ⟨(run p s).V.map (shVisit b), (run p s).kind, (run p s).num⟩ :=
  run_sh (s := s) (s' := ⟨s.dur, s.mv, s.det, s.tool, a⟩) hs.v.wn rfl ha rfl rfl rfl p.st 0 p.entry [] rfl (fun x hx => (hs.v.st x hx).mt.1)
end Go.Proofs.YtihohjgjklcnlaaDoor.Pl
namespace Go.Proofs.YtihohjgjklcnlaaDoor
open Go.RowKit
/-- Two plans, the second of which is changed. -/
structure Mem1 (W : World) (B np nq : Nat) (p q : PlanP) (w : World) : Prop where
  p : PlIs B np p w
  q : PlM B nq q w
  bel : Below W.heap.size W w
  lo : W.heap.size ≤ B
theorem Mem1.below {W : World} {B np nq : Nat} {p q : PlanP} {w w' : World} (h : Mem1 W B np nq p q w) (hb : Below w.heap.size w w') : Mem1 W B np nq p q w' := ⟨h.p.below hb, h.q.below hb, below_step h.bel hb, h.lo⟩
theorem Mem1.upd {W : World} {B np nq : Nat} {p q q' : PlanP} {w w' : World} (h : Mem1 W B np nq p q w) {S : Nat → Prop} (k : PlM B nq q' w' ∧ Ch S w w') (hS : ∀ k, S k → B ≤ k) : Mem1 W B np nq p q' w' :=
  ⟨h.p.ch k.2 hS, k.1, h.bel.trans (k.2.below h.bel.size (fun k hk => Nat.le_trans h.lo (hS k hk))), h.lo⟩
theorem Mem1.num {W : World} {B np nq : Nat} {p : PlanP} {en mi ma : Int} {st : List Pl.Stage} {wn : List Pl.Win} {sa wa : Option Addr} {sc wc : Nat} {w : World} (h : Mem1 W B np nq p ⟨⟨en, mi, ma, st, wn⟩, sa, sc, wa, wc⟩ w) {o : Nat} {u : Value} {en' mi' ma' : Int}
    (hu : (#[.int .i64 en, .int .i64 mi, .int .i64 ma, .slice sa st.length sc, .slice wa wn.length wc] : Array Value).setIfInBounds o u = #[.int .i64 en', .int .i64 mi', .int .i64 ma', .slice sa st.length sc, .slice wa wn.length wc]) :
    Mem1 W B np nq p ⟨⟨en', mi', ma', st, wn⟩, sa, sc, wa, wc⟩ (w.setCell ⟨nq, o, none⟩ u) := h.upd (h.q.num hu) (fun k hk => by have := h.q.hi; omega)
theorem Mem1.field {W : World} {B np nq : Nat} {p : PlanP} {en mi ma : Int} {st : List Pl.Stage} {wn : List Pl.Win} {sa wa : Option Addr} {sc wc : Nat} {w : World} (h : Mem1 W B np nq p ⟨⟨en, mi, ma, st, wn⟩, sa, sc, wa, wc⟩ w) {i o : Nat} {u : Value} {x : Pl.Stage} (hi : i < st.length) (ho : o < 6)
    (hx : stageCells x = (stageCells st[i]).set o u) {g : Nat} (hg : sa = some ⟨g, 0, none⟩) : Mem1 W B np nq p ⟨⟨en, mi, ma, st.set i x, wn⟩, sa, sc, wa, wc⟩ (w.setCell ⟨g, 0 + i * 6 + o, none⟩ u) :=
  h.upd (h.q.field hi ho hx hg) (fun k hk => by have := h.q.sr.lt _ hg; simp only at this; omega)
/-- Two plans and two scenarios, the last of which is changed. -/
structure Mem3 (W : World) (B np nq ns nt : Nat) (p q : PlanP) (r t : ScenP) (w : World) : Prop where
  m : Mem2 W B np ns nt p r t w
  q : PlIs B nq q w
theorem Mem3.below {W : World} {B np nq ns nt : Nat} {p q : PlanP} {r t : ScenP} {w w' : World} (h : Mem3 W B np nq ns nt p q r t w) (hb : Below w.heap.size w w') : Mem3 W B np nq ns nt p q r t w' := ⟨h.m.below hb, h.q.below hb⟩
theorem Mem3.num {W : World} {B np nq ns nt : Nat} {p q : PlanP} {r : ScenP} {du mv : List Int} {de tl at_ : Int} {da ma : Option Addr} {dc mc : Nat} {w : World} (h : Mem3 W B np nq ns nt p q r ⟨⟨du, mv, de, tl, at_⟩, da, dc, ma, mc⟩ w) {de' tl' at' : Int} {o : Nat} {u : Value}
    (hu : (#[.slice da du.length dc, .slice ma mv.length mc, .int .i64 de, .int .i64 tl, .int .i64 at_] : Array Value).setIfInBounds o u = #[.slice da du.length dc, .slice ma mv.length mc, .int .i64 de', .int .i64 tl', .int .i64 at']) :
    Mem3 W B np nq ns nt p q r ⟨⟨du, mv, de', tl', at'⟩, da, dc, ma, mc⟩ (w.setCell ⟨nt, o, none⟩ u) := ⟨h.m.num hu, h.q.ch (h.m.t.num hu).2 (fun k hk => by have := h.m.t.hi; omega)⟩
end Go.Proofs.YtihohjgjklcnlaaDoor

namespace Go.Proofs.YtihohjgjklcnlaaDoor
open Go.RowKit Go.Shelf

theorem free_iff {K : Kal.Kal} {b : Kal.Bk} : Kal.free K b = true ↔ Kal.okB b = true ∧ ∀ x ∈ K b.tool.toNat, ¬ (x.s < b.e ∧ b.s < x.e) := by
  unfold Kal.free Kal.busy
  rw [Bool.and_eq_true]
  constructor
  · rintro ⟨h1, h2⟩
    have hb := Kal.okB_iff.1 h1
    refine ⟨h1, Kal.anyHits_false.1 ?_⟩
    have : decide (b.s < b.e) = true := by simp; omega
    rw [this, Bool.true_and] at h2
    simpa using h2
  · rintro ⟨h1, h2⟩
    refine ⟨h1, ?_⟩
    rw [Kal.anyHits_false.2 h2]; simp
theorem ins_count (p : Kal.Bk → Bool) (l : List Kal.Bk) (b : Kal.Bk) : (Kal.ins l b).countP p = l.countP p + if p b = true then 1 else 0 := by
  have h : l.countP p = (l.take (Kal.fb l b.s)).countP p + (l.drop (Kal.fb l b.s)).countP p := by rw [← List.countP_append, List.take_append_drop]
  unfold Kal.ins
  rw [List.countP_append, List.countP_cons, h]
  omega
theorem upTo_put (p : Kal.Bk → Bool) (K : Kal.Kal) (b : Kal.Bk) : ∀ k, (Kal.upTo (Kal.put K b) k).countP p = (Kal.upTo K k).countP p + if b.tool.toNat < k ∧ p b = true then 1 else 0
  | 0 => by simp [Kal.upTo]
  | k + 1 => by
    have ih := upTo_put p K b k
    rw [Kal.upTo_succ, Kal.upTo_succ, List.countP_append, List.countP_append, ih]
    unfold Kal.put
    by_cases e : k = b.tool.toNat
    · rw [if_pos e, ins_count]
      by_cases hp : p b = true
      · rw [if_neg (by omega), if_pos hp, if_pos ⟨by omega, hp⟩]; omega
      · rw [if_neg (by simp [hp]), if_neg hp, if_neg (by simp [hp])]; omega
    · rw [if_neg e]
      by_cases hp : p b = true
      · by_cases hk : b.tool.toNat < k
        · rw [if_pos ⟨hk, hp⟩, if_pos ⟨by omega, hp⟩]; omega
        · rw [if_neg (by omega), if_neg (by omega)]; omega
      · rw [if_neg (by simp [hp]), if_neg (by simp [hp])]; omega
theorem all_book (p : Kal.Bk → Bool) (K : Kal.Kal) (b : Kal.Bk) : (Kal.all (Kal.book K b)).countP p = (Kal.all K).countP p + if Kal.free K b = true ∧ p b = true then 1 else 0 := by
  unfold Kal.book
  by_cases hf : Kal.free K b = true
  · rw [if_pos hf]
    unfold Kal.all
    rw [upTo_put]
    have := Kal.okB_iff.1 (free_iff.1 hf).1
    by_cases hp : p b = true
    · rw [if_pos ⟨by omega, hp⟩, if_pos ⟨hf, hp⟩]
    · rw [if_neg (by simp [hp]), if_neg (by simp [hp])]
  · rw [if_neg hf, if_neg (by simp [hf])]; rfl
theorem len_book (K : Kal.Kal) (b : Kal.Bk) : (Kal.all (Kal.book K b)).length = (Kal.all K).length + if Kal.free K b = true then 1 else 0 := by
  have := all_book (fun _ => true) K b
  simpa using this
theorem upTo_drop (K : Kal.Kal) (o : Int) : ∀ k, Kal.upTo (Kal.drop K o) k = (Kal.upTo K k).filter (fun b => !decide (b.o = o))
  | 0 => by simp [Kal.upTo]
  | k + 1 => by rw [Kal.upTo_succ, Kal.upTo_succ, List.filter_append, upTo_drop K o k]; rfl
theorem owned_len (K : Kal.Kal) (o : Int) : (Kal.owned K o).length = (Kal.all K).countP (fun b => decide (b.o = o)) := by
  unfold Kal.owned; rw [List.countP_eq_length_filter]
theorem countO_is (K : Kal.Kal) (o : Int) : countO K o = ((Kal.owned K o).length : Int) := by
  have h := List.length_eq_countP_add_countP (fun b : Kal.Bk => decide (b.o = o)) (l := Kal.all K)
  have h2 : (Kal.all (Kal.drop K o)).length = (Kal.all K).countP (fun b => !decide (b.o = o)) := by unfold Kal.all; rw [upTo_drop, List.countP_eq_length_filter]
  have h3 : (Kal.all K).countP (fun b => !decide (b.o = o)) = (Kal.all K).countP (fun b => decide (¬ decide (b.o = o) = true)) := by congr 1; funext b; simp
  unfold countO
  rw [owned_len]; omega
theorem mem_put_old {K : Kal.Kal} {b x : Kal.Bk} {i : Nat} (h : x ∈ K i) : x ∈ Kal.book K b i := by
  unfold Kal.book; split
  · unfold Kal.put; split
    · exact Kal.mem_ins.2 (.inr h)
    · exact h
  · exact h
theorem mem_put_new {K : Kal.Kal} {b : Kal.Bk} (h : Kal.free K b = true) : b ∈ Kal.book K b b.tool.toNat := by
  unfold Kal.book; rw [if_pos h]; unfold Kal.put; rw [if_pos rfl]; exact Kal.mem_ins.2 (.inl rfl)
theorem ins_filter (p : Kal.Bk → Bool) (l : List Kal.Bk) (b : Kal.Bk) (h : p b = false) : (Kal.ins l b).filter p = l.filter p := by
  unfold Kal.ins
  rw [List.filter_append, List.filter_cons_of_neg (by simp [h]), ← List.filter_append, List.take_append_drop]
theorem drop_book (K : Kal.Kal) (b : Kal.Bk) (i : Nat) : Kal.drop (Kal.book K b) b.o i = Kal.drop K b.o i := by
  unfold Kal.book; split
  · unfold Kal.put Kal.drop
    simp only
    split
    · exact ins_filter _ _ _ (by simp)
    · rfl
  · rfl
theorem CalAt.size {B : Nat} {c : CalP} {K : Kal.Kal} {w : World} (h : CalAt B c K w) : B ≤ w.heap.size := Nat.le_trans h.lowC (Nat.le_of_lt (lt_of_block h.box))
theorem Moved.bel {B : Nat} {c c' : CalP} {K : Kal.Kal} {w w' W : World} (h : Moved B c c' K w w') (hw : Below W.heap.size W w) (hS : ∀ k, c.owns k → W.heap.size ≤ k) : Below W.heap.size W w' := hw.trans (h.ch.below hw.size hS)
theorem Book_at {B : Nat} {c : CalP} {K : Kal.Kal} {w : World} (C : Nat) (b : Kal.Bk) (h : CalAt B c K w) (hC : c.C = C) : Calls Tryd.prog 26 #[.pointer (some ⟨C, 0, none⟩), bkV b] w (BookPost B c K b w) := by
  have := Book_any b h h.size
  unfold CalP.ptr at this; rw [hC] at this; exact this
def CalIs (C : Nat) (K : Kal.Kal) (W w : World) : Prop := ∃ d : CalP, d.C = C ∧ CalAt W.heap.size d K w ∧ Below W.heap.size W w
theorem CalIs.below {C : Nat} {K : Kal.Kal} {W w w' : World} (h : CalIs C K W w) (hb : Below w.heap.size w w') : CalIs C K W w' := by
  obtain ⟨d, h1, h2, h3⟩ := h; exact ⟨d, h1, h2.below hb, below_step h3 hb⟩
theorem new_is (W : World) : Calls Tryd.prog 24 #[] W fun e w' => ∃ C, e = .returned (.pointer (some ⟨C, 0, none⟩)) ∧ CalIs C Kal.empty W w' :=
  (New_any W).mono fun _ _ ⟨h1, h2, h3⟩ => ⟨_, h1, newP W, rfl, h2, h3⟩
def CalOff (C : Nat) (K : Kal.Kal) (W : World) (S : Nat → Prop) (w : World) : Prop := ∃ d : CalP, d.C = C ∧ CalAt W.heap.size d K w ∧ Below W.heap.size W w ∧ ∀ k, d.owns k → ¬ S k
theorem CalIs.off {C : Nat} {K : Kal.Kal} {W w w' : World} (h : CalIs C K W w) (hb : Below w.heap.size w w') : CalOff C K W (fun k => w.heap.size ≤ k) w' := by
  obtain ⟨d, h1, h2, h3⟩ := h; exact ⟨d, h1, h2.below hb, below_step h3 hb, fun k hk => by have := (h2.lt k hk).2; omega⟩
theorem CalOff.below {C : Nat} {K : Kal.Kal} {W w w' : World} {S : Nat → Prop} (h : CalOff C K W S w) (hb : Below w.heap.size w w') : CalOff C K W S w' := by
  obtain ⟨d, h1, h2, h3, h4⟩ := h; exact ⟨d, h1, h2.below hb, below_step h3 hb, h4⟩
theorem CalOff.sub {C : Nat} {K : Kal.Kal} {W w : World} {S S' : Nat → Prop} (h : CalOff C K W S w) (hS : ∀ k, S' k → S k) : CalOff C K W S' w := by
  obtain ⟨d, h1, h2, h3, h4⟩ := h; exact ⟨d, h1, h2, h3, fun k hk hs => h4 k hk (hS k hs)⟩
theorem CalOff.more {C : Nat} {K : Kal.Kal} {W w w' : World} {S : Nat → Prop} (h : CalOff C K W S w) (hb : Below w.heap.size w w') : CalOff C K W (fun k => S k ∨ (w.heap.size ≤ k)) w' := by
  obtain ⟨d, h1, h2, h3, h4⟩ := h
  exact ⟨d, h1, h2.below hb, below_step h3 hb, fun k hk => by have := (h2.lt k hk).2; rintro (hs | hs); exact h4 k hk hs; omega⟩
theorem CalOff.ch {C : Nat} {K : Kal.Kal} {W w w' : World} {S T : Nat → Prop} (h : CalOff C K W S w) (hc : Ch T w w') (hT : ∀ k, T k → S k ∧ W.heap.size ≤ k) : CalOff C K W S w' := by
  obtain ⟨d, h1, h2, h3, h4⟩ := h
  exact ⟨d, h1, h2.ch hc (fun k hk ht => h4 k hk (hT k ht).1), h3.trans (hc.below h3.size (fun k hk => (hT k hk).2)), h4⟩
theorem moved_off {d d' : CalP} {C : Nat} {K K' : Kal.Kal} {W w w' : World} {S : Nat → Prop} (hm : Moved W.heap.size d d' K' w w') (h1 : d.C = C) (h2 : CalAt W.heap.size d K w) (h3 : Below W.heap.size W w) (h4 : ∀ k, d.owns k → ¬ S k) :
    CalOff C K' W (fun k => S k ∧ k < w.heap.size) w' ∧ Ch (fun k => ¬ S k ∧ W.heap.size ≤ k) w w' :=
  ⟨⟨d', hm.same.1.trans h1, hm.at_, hm.bel h3 (fun j hj => (h2.lt j hj).1), fun k hk hs => by
    rcases hm.owns k hk with h | h
    · exact h4 k h hs.1
    · omega⟩, hm.ch.mono (fun k hk => ⟨h4 k hk, (h2.lt k hk).1⟩)⟩
theorem book_off {C : Nat} {K : Kal.Kal} {W w : World} {S : Nat → Prop} (b : Kal.Bk) (h : CalOff C K W S w) : Calls Tryd.prog 26 #[.pointer (some ⟨C, 0, none⟩), bkV b] w fun e w' => e = .returned (.int .i64 (if Kal.free K b = true then 0 else 70)) ∧ CalOff C (Kal.book K b) W (fun k => S k ∧ k < w.heap.size) w' ∧ Ch (fun k => ¬ S k ∧ W.heap.size ≤ k) w w' := by
  obtain ⟨d, h1, h2, h3, h4⟩ := h
  exact (Book_at C b h2 h1).mono fun _ _ ⟨c', he, hm⟩ => ⟨he, moved_off hm h1 h2 h3 h4⟩
theorem CalOff.len {C : Nat} {K : Kal.Kal} {W w : World} {S : Nat → Prop} (h : CalOff C K W S w) : Calls Tryd.prog 27 #[.pointer (some ⟨C, 0, none⟩)] w fun e w' => e = .returned (.int .i64 ((Kal.all K).length : Int)) ∧ w = w' := by
  obtain ⟨d, h1, h2, h3, h4⟩ := h
  have := Len_any h2
  unfold CalP.ptr at this; rw [h1] at this; exact this

/-! ### the law's bookings, on paper -/
/-- A booking as the calendar has it. -/
def kb (x : Pl.Bk) : Kal.Bk := ⟨x.tool, x.s, x.e, x.o⟩
/-- What the first i bookings have come to. -/
structure BkInv (b : Kal.Bk) (L : List Pl.Bk) (i : Nat) (K : Kal.Kal) (n : Int) : Prop where
  mem : b ∈ K b.tool.toNat
  cnt : ((Kal.owned K 4).length : Int) = n
  le : 0 ≤ n ∧ n ≤ i
  drop : (Kal.all (Kal.drop K 4)).length = 1
  apart : n = i → ∀ m (h : m < L.length), m < i → L[m].tool = b.tool → ¬ (b.s < L[m].e ∧ L[m].s < b.e)
theorem free_empty {b : Kal.Bk} (h : Kal.okB b = true) : Kal.free Kal.empty b = true := free_iff.2 ⟨h, fun x hx => by cases hx⟩
theorem all_empty : Kal.all Kal.empty = [] := by unfold Kal.all Kal.upTo Kal.empty; simp
theorem BkInv.start {b : Kal.Bk} (h : Kal.okB b = true) (h9 : b.o = 9) (L : List Pl.Bk) : BkInv b L 0 (Kal.book Kal.empty b) 0 := by
  have hf := free_empty h
  refine ⟨mem_put_new hf, ?_, ⟨Int.le_refl _, Int.le_refl _⟩, ?_, fun _ m _ hm => absurd hm (Nat.not_lt_zero _)⟩
  · rw [owned_len, all_book, all_empty]; simp [h9]
  · show (Kal.upTo (Kal.drop _ 4) 60).length = 1
    rw [upTo_drop, ← List.countP_eq_length_filter]
    show List.countP _ (Kal.all _) = 1
    rw [all_book, all_empty]; simp [h9, hf]
theorem BkInv.step {b : Kal.Bk} {L : List Pl.Bk} {i : Nat} {K : Kal.Kal} {n : Int} (h : BkInv b L i K n) (hi : i < L.length) (h4 : L[i].o = 4) : BkInv b L (i + 1) (Kal.book K (kb L[i])) (n + if Kal.free K (kb L[i]) = true then 1 else 0) := by
  have hc := h.cnt; have hl := h.le
  have ho : (kb L[i]).o = 4 := h4
  refine ⟨mem_put_old h.mem, ?_, ?_, ?_, ?_⟩
  · rw [owned_len, all_book, Int.natCast_add]
    rw [owned_len] at hc
    rw [hc]
    by_cases hf : Kal.free K (kb L[i]) = true <;> simp [hf, ho]
  · split <;> omega
  · have e : Kal.drop (Kal.book K (kb L[i])) 4 = Kal.drop K 4 := by
      funext j
      have := drop_book K (kb L[i]) j
      rw [ho] at this; exact this
    rw [e]; exact h.drop
  · intro hn m hm hmi ht
    by_cases hf : Kal.free K (kb L[i]) = true
    · rw [if_pos hf] at hn
      by_cases e : m = i
      · subst e
        have := (free_iff.1 hf).2 b (by have := h.mem; rw [← ht] at this; exact this)
        exact this
      · exact h.apart (by omega) m hm (by omega) ht
    · rw [if_neg hf] at hn; omega
/-- A visit that lies in a booking. -/
def Cov (x : Pl.Bk) (v : Pl.Visit) : Prop := x.tool = v.tool ∧ x.s ≤ v.start ∧ x.e ≥ v.fin
theorem books_owner {l : List Pl.Stage} {o : Int} : ∀ x ∈ Pl.books l o, x.o = o := by
  intro x hx
  obtain ⟨s, _, hx⟩ := List.mem_flatMap.1 hx
  simp only [List.mem_cons, List.not_mem_nil, or_false] at hx
  rcases hx with rfl | rfl <;> rfl
theorem cov_all {p : Pl.Plan} {s : Pl.Scen} {V : List Pl.Visit} {i k : Nat} (hp : Pl.Poss p s) (h : Pl.Steps p s i V) (hi : i ≤ p.st.length) (hk : k < i) (hV : k < V.length) : ∃ m, ∃ hm : m < (Pl.books p.st 4).length, Cov (Pl.books p.st 4)[m] V[k] := by
  have hkl : k < p.st.length := by omega
  obtain ⟨-, h2, h3⟩ := Pl.done_of hp hkl (h.each k hkl hk)
  have hd := hp.dur k hkl
  rw [Pl.nth_lt hV] at h2 h3
  have key : ∃ x ∈ Pl.books p.st 4, Cov x V[k] := by
    rcases h3 with ⟨e1, e2, -⟩ | ⟨e1, e2⟩
    · refine ⟨⟨p.st[k].m.tool, p.st[k].m.start, p.st[k].m.start + p.st[k].mx, 4⟩, List.mem_flatMap.2 ⟨p.st[k], List.getElem_mem hkl, by simp⟩, e1.symm, ?_, ?_⟩
      · show p.st[k].m.start ≤ _; omega
      · show p.st[k].m.start + p.st[k].mx ≥ _; omega
    · refine ⟨⟨p.st[k].s.tool, p.st[k].s.start, p.st[k].s.start + p.st[k].mx, 4⟩, List.mem_flatMap.2 ⟨p.st[k], List.getElem_mem hkl, by simp⟩, e1.symm, ?_, ?_⟩
      · show p.st[k].s.start ≤ _; omega
      · show p.st[k].s.start + p.st[k].mx ≥ _; omega
  obtain ⟨x, hx, hc⟩ := key
  obtain ⟨m, hm, rfl⟩ := List.mem_iff_getElem.1 hx
  exact ⟨m, hm, hc⟩
/-- Where all were booked, nothing of somebody else lies beside a visit. -/
theorem cov_apart {b : Kal.Bk} {L : List Pl.Bk} {K : Kal.Kal} {n : Int} (h : BkInv b L L.length K n) (hn : n = (L.length : Int)) {m : Nat} (hm : m < L.length) {v : Pl.Visit} (hc : Cov L[m] v) (ht : b.tool = v.tool) : ¬ (b.s < v.fin ∧ v.start < b.e) := by
  obtain ⟨h1, h2, h3⟩ := hc
  have := h.apart hn m hm hm (h1.trans ht.symm)
  omega

/-! ### the law's memory -/
def KeepS (nb : Nat) (aa : Option Addr) (k : Nat) : Prop := k = nb ∨ ∃ x, aa = some x ∧ k = x.block
structure BkM (W V : World) (C np ns nb : Nat) (K : Kal.Kal) (q : PlanP) (r : ScenP) (b : Kal.Bk) (aa : Option Addr) (ac : Nat) (L : List Pl.Bk) (w : World) : Prop where
  cal : CalOff C K V (KeepS nb aa) w
  p : PlIs V.heap.size np q w
  s : ScIs V.heap.size ns r w
  bb : w.heap[nb]? = some (bkObj b)
  row : RowA pbCells 4 w aa ac L
  bel : Below W.heap.size W w
  lo : W.heap.size ≤ V.heap.size
  lt : ∀ k, KeepS nb aa k → k < w.heap.size
theorem BkM.below {W V : World} {C np ns nb : Nat} {K : Kal.Kal} {q : PlanP} {r : ScenP} {b : Kal.Bk} {aa : Option Addr} {ac : Nat} {L : List Pl.Bk} {w w' : World} (h : BkM W V C np ns nb K q r b aa ac L w) (hb : Below w.heap.size w w') : BkM W V C np ns nb K q r b aa ac L w' :=
  ⟨h.cal.below hb, h.p.below hb, h.s.below hb, box_below h.bb hb, h.row.below hb, below_step h.bel hb, h.lo, fun k hk => Nat.lt_of_lt_of_le (h.lt k hk) hb.size⟩
theorem BkM.ch {W V : World} {C np ns nb : Nat} {K K' : Kal.Kal} {q : PlanP} {r : ScenP} {b : Kal.Bk} {aa : Option Addr} {ac : Nat} {L : List Pl.Bk} {w w' : World} (h : BkM W V C np ns nb K q r b aa ac L w)
    (h1 : CalOff C K' V (fun k => KeepS nb aa k ∧ k < w.heap.size) w') (h2 : Ch (fun k => ¬ KeepS nb aa k ∧ V.heap.size ≤ k) w w') : BkM W V C np ns nb K' q r b aa ac L w' :=
  ⟨h1.sub (fun k hk => ⟨hk, h.lt k hk⟩), h.p.ch h2 (fun _ hk => hk.2), h.s.ch h2 (fun _ hk => hk.2), (h2.block _ (lt_of_block h.bb) (fun e => e.1 (.inl rfl))).trans h.bb,
    h.row.ch h2 (fun x hx e => e.1 (.inr ⟨x, hx, rfl⟩)), h.bel.trans (h2.below h.bel.size (fun _ hk => Nat.le_trans h.lo hk.2)), h.lo, fun k hk => Nat.lt_of_lt_of_le (h.lt k hk) h2.size⟩
theorem BkM.book {W V : World} {C np ns nb : Nat} {K : Kal.Kal} {q : PlanP} {r : ScenP} {b : Kal.Bk} {aa : Option Addr} {ac : Nat} {L : List Pl.Bk} {w : World} (h : BkM W V C np ns nb K q r b aa ac L w) (x : Kal.Bk) :
    Calls Tryd.prog 26 #[.pointer (some ⟨C, 0, none⟩), bkV x] w fun e w' => e = .returned (.int .i64 (if Kal.free K x = true then 0 else 70)) ∧ BkM W V C np ns nb (Kal.book K x) q r b aa ac L w' :=
  (book_off x h.cal).mono fun _ _ ⟨h1, h2, h3⟩ => ⟨h1, h.ch h2 h3⟩
end Go.Proofs.YtihohjgjklcnlaaDoor
