/-
  The main slots of a safe plan's stages as bookings, on paper: they are free one after the other.
  CertifyUnsafe walked.
  CertifyBooked walked.
  CertifyBooked: for every input that can be read the call returns true and leaves the input as it was; the row, and its card, whose table is tied to the program's text. No condition beside what the row says.
-/
import Derived.Test.YtihohjgjklcnlaaDoorQBz
import Derived.Test.YtihohjgjklcnlaaDoorQKB3
import Derived.Test.YtihohjgjklcnlaaDoorQCf
import Derived.Test.YtihohjgjklcnlaaDoorQCg
import Derived.Deep.LoopGhost
import Derived.Deep.DeepCutAuto
import Derived.Test.YtihohjgjklcnlaaDoorQCh9
namespace Go.Proofs.YtihohjgjklcnlaaDoor
/-- A stage's main slot as a booking of owner 7. -/
def mainB (x : Pl.Stage) : Kal.Bk := ⟨x.m.tool, x.m.start, x.m.start + x.mx, 7⟩
/-- The calendar in which the first j main slots are booked. -/
def mains (l : List Pl.Stage) : Nat → Kal.Kal
  | 0 => Kal.empty
  | j + 1 => Kal.book (mains l j) (mainB (l.getD j ⟨0, 0, ⟨0, 0⟩, ⟨0, 0⟩⟩))
theorem mains_succ {l : List Pl.Stage} {j : Nat} (h : j < l.length) : mains l (j + 1) = Kal.book (mains l j) (mainB l[j]) := by
  show Kal.book _ _ = _
  rw [List.getD_eq_getElem?_getD, List.getElem?_eq_getElem h]; rfl
theorem main_le {p : Pl.Plan} (hv : Pl.Valid p) (h : Pl.SafeC p) : ∀ (j i : Nat) (hj : j < p.st.length) (hij : i < j), p.st[i].m.start + p.st[i].mx ≤ p.st[j].m.start := by
  have hc := (Pl.chain_iff.1 ((Pl.safe_chain hv).1 h).1).2.2
  have hm := hv.mmin
  intro j
  induction j with
  | zero => intro i _ hij; omega
  | succ j ih =>
    intro i hj hij
    have h1 := (hc j hj).1
    have ok := hv.st p.st[j] (List.getElem_mem (by omega))
    have q1 := ok.mn; have q2 := ok.mx
    by_cases e : i = j
    · subst e; omega
    · have := ih i (by omega) (by omega)
      omega
theorem mem_book {K : Kal.Kal} {b x : Kal.Bk} {i : Nat} (h : x ∈ Kal.book K b i) : x ∈ K i ∨ (x = b ∧ i = b.tool.toNat) := by
  unfold Kal.book at h
  split at h
  · unfold Kal.put at h
    split at h
    · rcases Kal.mem_ins.1 h with rfl | h'
      · right; exact ⟨rfl, by assumption⟩
      · left; exact h'
    · left; exact h
  · left; exact h
theorem mains_mem {l : List Pl.Stage} : ∀ {j t : Nat} {x : Kal.Bk}, j ≤ l.length → x ∈ mains l j t → ∃ k, ∃ h : k < l.length, k < j ∧ x = mainB l[k] := by
  intro j
  induction j with
  | zero => intro t x _ h; cases h
  | succ j ih =>
    intro t x hj h
    rw [mains_succ (by omega)] at h
    rcases mem_book h with h | ⟨rfl, -⟩
    · obtain ⟨k, hk, h1, h2⟩ := ih (by omega) h
      exact ⟨k, hk, by omega, h2⟩
    · exact ⟨j, by omega, by omega, rfl⟩
theorem main_ok {p : Pl.Plan} (hv : Pl.Valid p) {x : Pl.Stage} (hx : x ∈ p.st) : Kal.okB (mainB x) = true := by
  have ok := hv.st x hx
  have q1 := ok.mn; have q2 := ok.mx; have q3 := ok.ms; have q4 := ok.top; have q5 := ok.mt
  rw [Kal.okB_iff]
  refine ⟨⟨?_, ?_⟩, ?_, ?_, ?_, ?_, ?_⟩ <;> simp only [mainB] <;> omega
/-- The j-th main slot can be booked when those ahead of it are. -/
theorem mains_free {p : Pl.Plan} (hv : Pl.Valid p) (h : Pl.SafeC p) {j : Nat} (hj : j < p.st.length) : Kal.free (mains p.st j) (mainB p.st[j]) = true := by
  refine free_iff.2 ⟨main_ok hv (List.getElem_mem hj), fun x hx => ?_⟩
  obtain ⟨k, hk, hkj, rfl⟩ := mains_mem (by omega) hx
  have := main_le hv h j k hj hkj
  simp only [mainB]
  omega
theorem mains_len {p : Pl.Plan} (hv : Pl.Valid p) (h : Pl.SafeC p) : ∀ j, j ≤ p.st.length → (Kal.all (mains p.st j)).length = j := by
  intro j
  induction j with
  | zero => intro _; show (Kal.all Kal.empty).length = 0; rw [all_empty]; rfl
  | succ j ih =>
    intro hj
    rw [mains_succ (by omega), len_book, ih (by omega), if_pos (mains_free hv h (by omega))]
end Go.Proofs.YtihohjgjklcnlaaDoor

namespace Go.Proofs.YtihohjgjklcnlaaDoor
open Go.RowKit Go.Shelf
attribute [local go_sem] Oper.semAt_some
theorem check_is (q : PlanP) (w : World) (h : q.ok w) {s : Pl.Scen} {b : Bool} (hR : Pl.checkR q.p = (s, b)) : Calls Tryd.prog 12 #[q.val] w (ChkEx s b w) := by
  refine (Check_any q w h).mono fun e w' ⟨r, h1, h2, h3, h4⟩ => ?_
  obtain ⟨s', da, dc, ma, mc⟩ := r
  rw [hR] at h1 h2
  simp only at h1
  subst h1
  exact ⟨da, dc, ma, mc, h2, h3.ok, h4⟩
set_option maxRecDepth 100000 in
set_option maxHeartbeats 4000000 in
theorem unsafe_any (xa : Option Addr) (xc : Nat) (X : List (List Int)) (t : Bool) (W : World) (ht : Wb.Tab W) (hX : ArrsA 6 W xa xc X) :
    Calls Tryd.prog 4 #[.slice xa X.length xc, .bool t] W fun e w' => e = .returned (.bool true) ∧ Below W.heap.size W w' := by
  have HX := Lib.hid hX; have HT := Lib.hid ht; clear hX ht
  have HFi := Lib.hid (Pl.made9_fine X t)
  go_enter Tryd.func4, Tryd.ntmps4
  go_wp2_with fail
  refine (sane_any W HT.out).mono ?_; rintro e w1 ⟨rfl, g1⟩
  have G1 := Lib.hid g1; clear g1
  go_wp2_with fail
  refine (made_any X t xa xc w1 (HX.out.below G1.out)).mono ?_; rintro e w2 ⟨sa, sc, wa, wc, rfl, s1, s2, g2⟩
  have G2 := Lib.hid (below_step G1.out g2)
  have O2 := Lib.hid (show StO w2 W.heap.size (.slice sa (Pl.made9 X t).st.length sc) (Pl.made9 X t).st ∧ WnO w2 W.heap.size (.slice wa (Pl.made9 X t).wn.length wc) (Pl.made9 X t).wn from ⟨s1.mono G1.out.size, s2.mono G1.out.size⟩)
  clear g2 s1 s2 G1
  obtain ⟨P, hP⟩ : ∃ P, Pl.made9 X t = P := ⟨_, rfl⟩
  rw [hP] at O2 HFi
  rw [hP]
  have HP := Lib.hid hP
  clear hP
  go_upto_region 3 with (fail)
  have hb := below_new w2 (.cells #[.int .i64 P.entry, .int .i64 P.mmin, .int .i64 P.mmax, .slice sa P.st.length sc, .slice wa P.wn.length wc] 28)
  have NP := Lib.hid (heap_alloc_new w2 (.cells #[.int .i64 P.entry, .int .i64 P.mmin, .int .i64 P.mmax, .slice sa P.st.length sc, .slice wa P.wn.length wc] 28))
  have G3 := Lib.hid (below_step G2.out hb)
  have O3 := Lib.hid (show StO (w2.alloc (.cells #[.int .i64 P.entry, .int .i64 P.mmin, .int .i64 P.mmax, .slice sa P.st.length sc, .slice wa P.wn.length wc] 28)) W.heap.size (.slice sa P.st.length sc) P.st ∧ WnO (w2.alloc (.cells #[.int .i64 P.entry, .int .i64 P.mmin, .int .i64 P.mmax, .slice sa P.st.length sc, .slice wa P.wn.length wc] 28)) W.heap.size (.slice wa P.wn.length wc) P.wn from ⟨RowO.below O2.out.1 hb, RowO.below O2.out.2 hb⟩)
  have S3 := Lib.hid (made_ok O3.out.1 O3.out.2 : PlanP.ok ⟨P, sa, sc, wa, wc⟩ _)
  clear hb O2 G2
  generalize w2.alloc (.cells #[.int .i64 P.entry, .int .i64 P.mmin, .int .i64 P.mmax, .slice sa P.st.length sc, .slice wa P.wn.length wc] 28) = w3 at *
  generalize w2.heap.size = n8 at *
  have c0 := box_cell NP.out 0 (.int .i64 P.entry) rfl
  have c1 := box_cell NP.out 1 (.int .i64 P.mmin) rfl
  have c2 := box_cell NP.out 2 (.int .i64 P.mmax) rfl
  have c3 := box_cell NP.out 3 (.slice sa P.st.length sc) rfl
  have c4 := box_cell NP.out 4 (.slice wa P.wn.length wc) rfl
  by_cases hs : Pl.SafeC P
  · have CK := Lib.hid (check_is ⟨P, sa, sc, wa, wc⟩ w3 S3.out (Pl.check_safe HFi.out.v hs))
    clear hs
    go_wp2_with fail
    refine CK.out.mono ?_; rintro e w4 ⟨da, dc, ma, mc, rfl, -, g⟩
    have G4 := Lib.hid (below_step (below_step G3.out g) (below_new w4 (.cells #[.slice da 0 dc, .slice ma 0 mc, .int .i64 0, .int .i64 0, .int .i64 0] 32)))
    have NS := Lib.hid (heap_alloc_new w4 (.cells #[.slice da 0 dc, .slice ma 0 mc, .int .i64 0, .int .i64 0, .int .i64 0] 32))
    clear g CK c0 c1 c2 c3 c4
    simp only [Pl.scen0, List.length_nil]
    go_upto_region 4 with (fail)
    generalize w4.alloc (.cells #[.slice da 0 dc, .slice ma 0 mc, .int .i64 0, .int .i64 0, .int .i64 0] 32) = w5 at *
    have k0 := box_cell NS.out 0 (.slice da 0 dc) rfl
    have k1 := box_cell NS.out 1 (.slice ma 0 mc) rfl
    have k3 := box_cell NS.out 3 (.int .i64 0) rfl
    go_wp2_with fail
    go_ret
    exact ⟨rfl, G4.out⟩
  · obtain ⟨s, hR, hPo, hk⟩ := Pl.check_unsafe HFi.out.v hs
    have CK := Lib.hid (check_is ⟨P, sa, sc, wa, wc⟩ w3 S3.out hR)
    have HPo := Lib.hid hPo
    have HKi := Lib.hid hk
    clear hs hR hPo hk
    go_wp2_with fail
    refine CK.out.mono ?_; rintro e w4 ⟨da, dc, ma, mc, rfl, ok, g⟩
    have hb := below_new w4 (.cells #[.slice da s.dur.length dc, .slice ma s.mv.length mc, .int .i64 s.det, .int .i64 s.tool, .int .i64 s.at_] 32)
    have G5 := Lib.hid (below_step (below_step G3.out g) hb)
    have NS := Lib.hid (heap_alloc_new w4 (.cells #[.slice da s.dur.length dc, .slice ma s.mv.length mc, .int .i64 s.det, .int .i64 s.tool, .int .i64 s.at_] 32))
    have NP5 := Lib.hid (box_below (box_below NP.out g) hb)
    have S5 := Lib.hid ((S3.out.below g).below hb)
    have D5 := Lib.hid (ok.below hb)
    clear g CK c0 c1 c2 c3 c4 hb ok G3 NP S3 O3
    go_upto_region 6 with (fail)
    generalize w4.alloc (.cells #[.slice da s.dur.length dc, .slice ma s.mv.length mc, .int .i64 s.det, .int .i64 s.tool, .int .i64 s.at_] 32) = w5 at *
    generalize w4.heap.size = n9 at *
    have RN := run_ends ⟨P, sa, sc, wa, wc⟩ ⟨s, da, dc, ma, mc⟩ w5 S5.out D5.out
    rw [answer_of HPo.out] at RN
    have RN := Lib.hid RN
    have HPs := Lib.hid (Pl.possible_iff.2 HPo.out)
    generalize Pl.run P s = R at *
    have c0 := box_cell NP5.out 0 (.int .i64 P.entry) rfl
    have c1 := box_cell NP5.out 1 (.int .i64 P.mmin) rfl
    have c2 := box_cell NP5.out 2 (.int .i64 P.mmax) rfl
    have c3 := box_cell NP5.out 3 (.slice sa P.st.length sc) rfl
    have c4 := box_cell NP5.out 4 (.slice wa P.wn.length wc) rfl
    have k0 := box_cell NS.out 0 (.slice da s.dur.length dc) rfl
    have k1 := box_cell NS.out 1 (.slice ma s.mv.length mc) rfl
    have k2 := box_cell NS.out 2 (.int .i64 s.det) rfl
    have k3 := box_cell NS.out 3 (.int .i64 s.tool) rfl
    have k4 := box_cell NS.out 4 (.int .i64 s.at_) rfl
    go_wp2_with fail
    refine RN.out.mono ?_; rintro e w6 ⟨va, vc, rfl, -, g, -⟩
    clear c0 c1 c2 c3 c4 k0 k1 k2 k3 k4 RN
    have hb := below_new w6 (.cells #[.int .i64 R.kind, .int .i64 R.num] 38)
    have NL := Lib.hid (heap_alloc_new w6 (.cells #[.int .i64 R.kind, .int .i64 R.num] 38))
    have G7 := Lib.hid (below_step (below_step G5.out g) hb)
    have NS7 := Lib.hid (box_below (box_below NS.out g) hb)
    have NP7 := Lib.hid (box_below (box_below NP5.out g) hb)
    have S7 := Lib.hid ((S5.out.below g).below hb)
    have D7 := Lib.hid ((D5.out.below g).below hb)
    clear g hb NS NP5 S5 D5 G5
    go_upto_region 7 with (fail)
    generalize w6.alloc (.cells #[.int .i64 R.kind, .int .i64 R.num] 38) = w7 at *
    generalize w6.heap.size = n10 at *
    have PS := Possible_any ⟨P, sa, sc, wa, wc⟩ ⟨s, da, dc, ma, mc⟩ w7 S7.out D7.out
    rw [show Pl.possible P s = true from HPs.out] at PS
    have PS := Lib.hid PS
    have c0 := box_cell NP7.out 0 (.int .i64 P.entry) rfl
    have c1 := box_cell NP7.out 1 (.int .i64 P.mmin) rfl
    have c2 := box_cell NP7.out 2 (.int .i64 P.mmax) rfl
    have c3 := box_cell NP7.out 3 (.slice sa P.st.length sc) rfl
    have c4 := box_cell NP7.out 4 (.slice wa P.wn.length wc) rfl
    have k0 := box_cell NS7.out 0 (.slice da s.dur.length dc) rfl
    have k1 := box_cell NS7.out 1 (.slice ma s.mv.length mc) rfl
    have k2 := box_cell NS7.out 2 (.int .i64 s.det) rfl
    have k3 := box_cell NS7.out 3 (.int .i64 s.tool) rfl
    have k4 := box_cell NS7.out 4 (.int .i64 s.at_) rfl
    go_wp2_with fail
    refine PS.out.mono ?_; rintro e w8 ⟨rfl, g⟩
    have l0 := box_cell (box_below NL.out g) 0 (.int .i64 R.kind) rfl
    have n1 : (R.kind != 0) = true := by simpa using HKi.out
    have G8 := Lib.hid (below_step G7.out g)
    clear c0 c1 c2 c3 c4 k0 k1 k2 k3 k4 g PS
    go_wp2_with fail
    go_ret
    exact ⟨rfl, G8.out⟩
end Go.Proofs.YtihohjgjklcnlaaDoor

namespace Go.Proofs.YtihohjgjklcnlaaDoor
open Go.RowKit Go.Shelf
attribute [local go_sem] Oper.semAt_some
/-- The law's memory: the calendar, the plan and the bookings. -/
structure Bk9 (W V : World) (C np : Nat) (K : Kal.Kal) (q : PlanP) (aa : Option Addr) (ac : Nat) (L : List Pl.Bk) (w : World) : Prop where
  cal : CalOff C K V (fun k => ∃ x, aa = some x ∧ k = x.block) w
  p : PlIs V.heap.size np q w
  row : RowA pbCells 4 w aa ac L
  bel : Below W.heap.size W w
  lo : W.heap.size ≤ V.heap.size
  lt : ∀ x, aa = some x → x.block < w.heap.size
theorem Bk9.below {W V : World} {C np : Nat} {K : Kal.Kal} {q : PlanP} {aa : Option Addr} {ac : Nat} {L : List Pl.Bk} {w w' : World} (h : Bk9 W V C np K q aa ac L w) (hb : Below w.heap.size w w') : Bk9 W V C np K q aa ac L w' :=
  ⟨h.cal.below hb, h.p.below hb, h.row.below hb, below_step h.bel hb, h.lo, fun x hx => Nat.lt_of_lt_of_le (h.lt x hx) hb.size⟩
theorem Bk9.book {W V : World} {C np : Nat} {K : Kal.Kal} {q : PlanP} {aa : Option Addr} {ac : Nat} {L : List Pl.Bk} {w : World} (h : Bk9 W V C np K q aa ac L w) (x : Kal.Bk) :
    Calls Tryd.prog 26 #[.pointer (some ⟨C, 0, none⟩), bkV x] w fun e w' => e = .returned (.int .i64 (if Kal.free K x = true then 0 else 70)) ∧ Bk9 W V C np (Kal.book K x) q aa ac L w' :=
  (book_off x h.cal).mono fun _ _ ⟨h1, h2, h3⟩ => ⟨h1, h2.sub (fun _ ⟨x, hx, e⟩ => ⟨⟨x, hx, e⟩, e ▸ h.lt x hx⟩), h.p.ch h3 (fun _ hk => hk.2), h.row.ch h3 (fun x hx e => e.1 ⟨x, hx, rfl⟩),
    h.bel.trans (h3.below h.bel.size (fun _ hk => Nat.le_trans h.lo hk.2)), h.lo, fun x hx => Nat.lt_of_lt_of_le (h.lt x hx) h3.size⟩
/-- How many main slots are booked ahead of the pair k, j. -/
def cnt9 (k j : Nat) : Nat := k / 2 + if k % 2 = 1 ∨ k / 2 < j then 1 else 0
theorem cnt9_zero (k : Nat) : cnt9 k 0 = (k + 1) / 2 := by unfold cnt9; split <;> omega
theorem cnt9_end {k m : Nat} (h : k < 2 * m) : cnt9 k m = (k + 1 + 1) / 2 := by unfold cnt9; split <;> omega
theorem cnt9_no {k j : Nat} (h : k ≠ 2 * j) : cnt9 k (j + 1) = cnt9 k j := by unfold cnt9; split <;> split <;> omega
theorem cnt9_yes {k j : Nat} (h : k = 2 * j) : cnt9 k j = j ∧ cnt9 k (j + 1) = j + 1 := by unfold cnt9; constructor <;> split <;> omega
theorem books_main {l : List Pl.Stage} {o : Int} : ∀ {j : Nat} (h : j < l.length), (Pl.books l o)[2 * j]? = some ⟨l[j].m.tool, l[j].m.start, l[j].m.start + l[j].mx, o⟩ := by
  induction l with
  | nil => intro j h; exact absurd h (by simp)
  | cons x l ih =>
    intro j h
    rw [books_eq, List.flatMap_cons]
    cases j with
    | zero => rfl
    | succ j =>
      have hl : (twoB x o).length = 2 := rfl
      rw [List.getElem?_append_right (by rw [hl]; omega), hl, show 2 * (j + 1) - 2 = 2 * j by omega, ← books_eq]
      exact ih (by simpa using h)
set_option maxRecDepth 100000 in
set_option maxHeartbeats 4000000 in
theorem booked9_any (xa : Option Addr) (xc : Nat) (X : List (List Int)) (t : Bool) (W : World) (ht : Wb.Tab W) (hX : ArrsA 6 W xa xc X) :
    Calls Tryd.prog 9 #[.slice xa X.length xc, .bool t] W fun e w' => e = .returned (.bool true) ∧ Below W.heap.size W w' := by
  have HX := Lib.hid hX; have HT := Lib.hid ht; clear hX ht
  have HFi := Lib.hid (Pl.made9_fine X t)
  go_enter Tryd.func9, Tryd.ntmps9
  go_wp2_with fail
  refine (sane_any W HT.out).mono ?_; rintro e w1 ⟨rfl, g1⟩
  have G1 := Lib.hid g1; clear g1
  go_wp2_with fail
  refine (made_any X t xa xc w1 (HX.out.below G1.out)).mono ?_; rintro e w2 ⟨sa, sc, wa, wc, rfl, s1, s2, g2⟩
  have G2 := Lib.hid (below_step G1.out g2)
  have O2 := Lib.hid (show StO w2 W.heap.size (.slice sa (Pl.made9 X t).st.length sc) (Pl.made9 X t).st ∧ WnO w2 W.heap.size (.slice wa (Pl.made9 X t).wn.length wc) (Pl.made9 X t).wn from ⟨s1.mono G1.out.size, s2.mono G1.out.size⟩)
  clear g2 s1 s2 G1
  obtain ⟨P, hP⟩ : ∃ P, Pl.made9 X t = P := ⟨_, rfl⟩
  rw [hP] at O2 HFi
  rw [hP]
  have HP := Lib.hid hP
  clear hP
  go_upto_region 3 with (fail)
  have hb := below_new w2 (.cells #[.int .i64 P.entry, .int .i64 P.mmin, .int .i64 P.mmax, .slice sa P.st.length sc, .slice wa P.wn.length wc] 28)
  have NP := Lib.hid (heap_alloc_new w2 (.cells #[.int .i64 P.entry, .int .i64 P.mmin, .int .i64 P.mmax, .slice sa P.st.length sc, .slice wa P.wn.length wc] 28))
  have G3 := Lib.hid (below_step G2.out hb)
  have O3 := Lib.hid (show StO (w2.alloc (.cells #[.int .i64 P.entry, .int .i64 P.mmin, .int .i64 P.mmax, .slice sa P.st.length sc, .slice wa P.wn.length wc] 28)) W.heap.size (.slice sa P.st.length sc) P.st ∧ WnO (w2.alloc (.cells #[.int .i64 P.entry, .int .i64 P.mmin, .int .i64 P.mmax, .slice sa P.st.length sc, .slice wa P.wn.length wc] 28)) W.heap.size (.slice wa P.wn.length wc) P.wn from ⟨RowO.below O2.out.1 hb, RowO.below O2.out.2 hb⟩)
  have S3 := Lib.hid (made_ok O3.out.1 O3.out.2 : PlanP.ok ⟨P, sa, sc, wa, wc⟩ _)
  clear hb O2 G2
  generalize w2.alloc (.cells #[.int .i64 P.entry, .int .i64 P.mmin, .int .i64 P.mmax, .slice sa P.st.length sc, .slice wa P.wn.length wc] 28) = w3 at *
  generalize w2.heap.size = n8 at *
  have c0 := box_cell NP.out 0 (.int .i64 P.entry) rfl
  have c1 := box_cell NP.out 1 (.int .i64 P.mmin) rfl
  have c2 := box_cell NP.out 2 (.int .i64 P.mmax) rfl
  have c3 := box_cell NP.out 3 (.slice sa P.st.length sc) rfl
  have c4 := box_cell NP.out 4 (.slice wa P.wn.length wc) rfl
  obtain ⟨⟨s1, B⟩, hR⟩ : ∃ x, Pl.checkR P = x := ⟨_, rfl⟩
  have HR := Lib.hid hR
  clear hR
  have CK := Lib.hid (check_is ⟨P, sa, sc, wa, wc⟩ w3 S3.out HR.out)
  have HP3 := Lib.hid (show PlIs w3.heap.size n8 ⟨P, sa, sc, wa, wc⟩ w3 from ⟨NP.out, S3.out, fun x hx => ((RowO.at_ O3.out.1).lt x hx).2, fun x hx => ((RowO.at_ O3.out.2).lt x hx).2, lt_of_block NP.out⟩)
  go_wp2_with fail
  refine CK.out.mono ?_; rintro e w4 ⟨da1, dc1, ma1, mc1, rfl, -, g⟩
  have hb := below_step g (below_new w4 (.cells #[.slice da1 s1.dur.length dc1, .slice ma1 s1.mv.length mc1, .int .i64 s1.det, .int .i64 s1.tool, .int .i64 s1.at_] 32))
  have HP5 := Lib.hid ((HP3.out.below hb).mono hb.size)
  have G5 := Lib.hid (below_step G3.out hb)
  clear g CK c0 c1 c2 c3 c4 hb NP S3 G3 O3 HP3
  go_upto_region 4 with (fail)
  generalize w4.alloc (.cells #[.slice da1 s1.dur.length dc1, .slice ma1 s1.mv.length mc1, .int .i64 s1.det, .int .i64 s1.tool, .int .i64 s1.at_] 32) = w5 at *
  go_wp2_with fail
  refine (new_is w5).mono ?_; rintro e w6 ⟨C, rfl, hC⟩
  have hb6 : Below w5.heap.size w5 w6 := by obtain ⟨d, h1, h2, h3⟩ := hC; exact h3
  have HC6 := Lib.hid hC
  have HP6 := Lib.hid (HP5.out.below hb6)
  have G6 := Lib.hid (below_step G5.out hb6)
  have HG5 := Lib.hid G5.out.size
  clear hC hb6 HP5 G5
  have c0 := box_cell HP6.out.box 0 (.int .i64 P.entry) rfl
  have c1 := box_cell HP6.out.box 1 (.int .i64 P.mmin) rfl
  have c2 := box_cell HP6.out.box 2 (.int .i64 P.mmax) rfl
  have c3 := box_cell HP6.out.box 3 (.slice sa P.st.length sc) rfl
  have c4 := box_cell HP6.out.box 4 (.slice wa P.wn.length wc) rfl
  go_wp2_with fail
  refine (Bookings_any ⟨P, sa, sc, wa, wc⟩ 7 w6 HP6.out.ok).mono ?_; rintro e w7 ⟨aa, ac, rfl, hr, g7⟩
  have eB : Pl.bookings P 7 = Pl.books P.st 7 := by unfold Pl.bookings; rw [if_pos]; rw [Pl.valid_iff.2 HFi.out.v]; rfl
  simp only [eB] at hr
  simp only [eB]
  clear c0 c1 c2 c3 c4 eB
  have MM := Lib.hid (show Bk9 W w5 C n8 (mains P.st 0) ⟨P, sa, sc, wa, wc⟩ aa ac (Pl.books P.st 7) w7 by
    have hal := RowO.at_ hr
    obtain ⟨a6, c6, e6, hr6, -⟩ := RowO.arg pb_len hr
    injection e6 with e6 _ e6'
    subst e6; subst e6'
    exact ⟨(HC6.out.off g7).sub (fun k ⟨x, hx, e⟩ => e ▸ (hal.lt x hx).1), HP6.out.below g7, hr6, below_step G6.out g7, HG5.out, fun x hx => (hal.lt x hx).2⟩)
  have HLn := Lib.hid (books_len P.st 7)
  have HBm := Lib.hid (fun (j : Nat) (h : j < P.st.length) => books_main (o := 7) h)
  clear hr g7 HC6 HP6 G6 HG5
  obtain ⟨L, hL⟩ : ∃ L, Pl.books P.st 7 = L := ⟨_, rfl⟩
  rw [hL] at MM HLn
  rw [hL]
  simp only [hL] at HBm
  clear hL
  cases B with
  | false =>
    go_wp2_with fail
    go_ret
    exact ⟨rfl, MM.out.bel⟩
  | true =>
  have HSf := Lib.hid (Pl.safe_true (p := P) (by rw [HR.out]))
  have hl8 := HSf.out.1.len
  have hL16 : L.length ≤ 16 := by have := HLn.out; omega
  go_wp2_with fail
  go_loopg [11, 12] L.length (fun g nv iv wr => ∃ k : Nat, k ≤ L.length ∧ g = L.length - k ∧ nv = .int .i64 (((k + 1) / 2 : Nat) : Int) ∧ iv = .int .i64 (k : Int) ∧ Hid (Bk9 W w5 C n8 (mains P.st ((k + 1) / 2)) ⟨P, sa, sc, wa, wc⟩ aa ac L wr))
  case atStart => exact ⟨0, by omega, by omega, rfl, rfl, MM⟩
  case round =>
    clear MM
    obtain ⟨k, hk, rfl, rfl, rfl, MM⟩ := hrel
    rename World => wk
    by_cases hlt : k < L.length
    · go_wp2_with fail
      go_loopg [11, 13] P.st.length (fun g nv jv wr => ∃ j : Nat, j ≤ P.st.length ∧ g = P.st.length - j ∧ nv = .int .i64 ((cnt9 k j : Nat) : Int) ∧ jv = .int .i64 (j : Int) ∧ Hid (Bk9 W w5 C n8 (mains P.st (cnt9 k j)) ⟨P, sa, sc, wa, wc⟩ aa ac L wr))
      case atStart => exact ⟨0, by omega, by omega, by rw [cnt9_zero], rfl, by rw [cnt9_zero]; exact MM⟩
      case round =>
        clear MM
        obtain ⟨j, hj, rfl, rfl, rfl, MM⟩ := hrel
        rename World => wl
        by_cases hjl : j < P.st.length
        · have HFr := Lib.hid (mains_free HSf.out.1 HSf.out.2 hjl)
          have HBj := Lib.hid (HBm.out j hjl)
          have hok := HSf.out.1.st P.st[j] (List.getElem_mem hjl)
          obtain ⟨ab, ao, rfl, hab, hac⟩ := MM.out.row.at (show 0 < L.length by omega)
          obtain ⟨b1, o1, rfl, hb1, hc1⟩ := MM.out.p.ok.st.at (show 0 < P.st.length by omega)
          have c3 := box_cell MM.out.p.box 3 (.slice (some ⟨b1, o1, none⟩) P.st.length sc) rfl
          have x0 := hac k hlt 0 (.int .i64 L[k].tool) rfl
          have x1 := hac k hlt 1 (.int .i64 L[k].s) rfl
          have x2 := hac k hlt 2 (.int .i64 L[k].e) rfl
          have x3 := hac k hlt 3 (.int .i64 L[k].o) rfl
          simp only [Nat.add_zero] at x0
          obtain ⟨s0, s1', s2, s3, s4, s5⟩ := st_cells (hc1 j hjl)
          clear hac hc1 s0 s4 s5
          have HX := Lib.hid (List.getElem?_eq_getElem hlt)
          have HMs := Lib.hid (mains_succ hjl)
          generalize L[k] = x at *
          generalize P.st[j] = y at *
          have i1 : (0 : Int) ≤ (k : Int) := by omega
          have i2 : (k : Int) < (L.length : Int) := by omega
          have i3 : ((k : Int)).toNat = k := by omega
          have i4 : (0 : Int) ≤ (j : Int) := by omega
          have i5 : (j : Int) < (P.st.length : Int) := by omega
          have i6 : ((j : Int)).toNat = j := by omega
          by_cases hkj : k = 2 * j
          · as_aux_lemma =>
            have hx : x = ⟨y.m.tool, y.m.start, y.m.start + y.mx, 7⟩ := by
              have h := HBj.out
              rw [← hkj, HX.out] at h
              exact Option.some.inj h
            subst hx
            simp only at x0 x1 x2 x3
            have q1 := hok.mn; have q2 := hok.mx; have q3 := hok.ms; have q4 := hok.top
            have r1 : IntKind.i64.wrap (y.m.start + y.mx) = y.m.start + y.mx := IntWalk.i64_in _ (by omega)
            have e1 : (k : Int) % 2 = 0 := by omega
            have e2 : (k : Int).tmod 2 = 0 := by rw [Int.tmod_eq_emod_of_nonneg (by omega)]; omega
            have e3 : (k : Int) / 2 = (j : Int) := by omega
            have e4 : (k : Int).tdiv 2 = (j : Int) := by rw [Int.tdiv_eq_ediv_of_nonneg (by omega)]; omega
            have e5 : IntKind.i64.wrap (j : Int) = (j : Int) := IntWalk.i64_in _ (by omega)
            have HC1 := Lib.hid (cnt9_yes hkj)
            have HKJ := Lib.hid hkj
            rw [HC1.out.1] at MM
            rw [HC1.out.1]
            clear hkj HX HBj hok
            go_upto_region 15 with (fail)
            go_cut [108] (fun tt wx => tt = .bool true ∧ ∃ n, wx = wl.drewN n)
            case first => as_aux_lemma =>
              go_quiet (fail)
              go_wp2_with fail
              go_meet
              exact ⟨rfl, ⟨_, rfl⟩⟩
            case rest =>
            obtain ⟨rfl, nq, rfl⟩ := hcut
            have HD := Lib.hid (below_drewN (Below.refl wl.heap.size wl) nq)
            have MM2 := Lib.hid (MM.out.below HD.out)
            have x0 := cell_below HD.out x0; have x1 := cell_below HD.out x1; have x2 := cell_below HD.out x2; have x3 := cell_below HD.out x3
            clear HD MM c3 s1' s2 s3
            generalize wl.drewN nq = wm at *
            have HB := MM2.out.book (mainB y)
            rw [if_pos HFr.out] at HB
            have HB := Lib.hid HB
            have r2 : IntKind.i64.wrap ((j : Int) + 1) = (j : Int) + 1 := IntWalk.i64_in _ (by omega)
            go_wp2_with fail
            refine HB.out.mono ?_; rintro e wn ⟨rfl, hM⟩
            have MM3 := Lib.hid hM
            clear hM HB MM2 x0 x1 x2 x3
            go_wp2_with fail
            go_roundg (P.st.length - (j + 1))
            case rel => exact ⟨j + 1, by omega, rfl, by rw [HC1.out.2]; go_num, by go_num, by rw [HC1.out.2, HMs.out]; exact MM3⟩
            case measure => omega
          · as_aux_lemma =>
            have HNo := Lib.hid (cnt9_no hkj)
            clear HX HBj hok HFr x3
            go_upto_region 15 with (fail)
            go_cut [108] (fun tt wx => tt = .bool false ∧ ∃ n, wx = wl.drewN n)
            case first => as_aux_lemma =>
              by_cases h1 : x.tool = y.m.tool
              · have n1 : (x.tool == y.m.tool) = true := by simp [h1]
                by_cases h2 : x.s = y.m.start
                · have n2 : (x.s == y.m.start) = true := by simp [h2]
                  by_cases h3 : x.e = IntKind.i64.wrap (x.s + y.mx)
                  · have n3 : (x.e == IntKind.i64.wrap (x.s + y.mx)) = true := by simp [h3]
                    by_cases h4 : k % 2 = 0
                    · have n4 : ((k : Int) % 2 == 0) = true := by rw [beq_iff_eq]; omega
                      have n6 : ((k : Int).tmod 2 == 0) = true := by rw [beq_iff_eq, Int.tmod_eq_emod_of_nonneg (by omega)]; omega
                      by_cases h5 : k / 2 = j
                      · skip
                        exact absurd (by omega) hkj
                      · have n5 : (IntKind.i64.wrap ((k : Int) / 2) == (j : Int)) = false := by rw [IntWalk.i64_in _ (by omega), beq_eq_false_iff_ne]; omega
                        clear hkj h1 h2 h3 h4 h5
                        go_quiet (fail)
                        go_wp2_with fail
                        go_meet
                        exact ⟨rfl, ⟨_, rfl⟩⟩
                    · have n4 : ((k : Int) % 2 == 0) = false := by rw [beq_eq_false_iff_ne]; omega
                      have n6 : ((k : Int).tmod 2 == 0) = false := by rw [beq_eq_false_iff_ne, Int.tmod_eq_emod_of_nonneg (by omega)]; omega
                      clear hkj h1 h2 h3 h4
                      go_quiet (fail)
                      go_wp2_with fail
                      go_meet
                      exact ⟨rfl, ⟨_, rfl⟩⟩
                  · have n3 : (x.e == IntKind.i64.wrap (x.s + y.mx)) = false := by simp [h3]
                    clear hkj h1 h2 h3
                    go_quiet (fail)
                    go_wp2_with fail
                    go_meet
                    exact ⟨rfl, ⟨_, rfl⟩⟩
                · have n2 : (x.s == y.m.start) = false := by simp [h2]
                  clear hkj h1 h2
                  go_quiet (fail)
                  go_wp2_with fail
                  go_meet
                  exact ⟨rfl, ⟨_, rfl⟩⟩
              · have n1 : (x.tool == y.m.tool) = false := by simp [h1]
                clear hkj h1
                go_quiet (fail)
                go_wp2_with fail
                go_meet
                exact ⟨rfl, ⟨_, rfl⟩⟩
            case rest =>
            obtain ⟨rfl, nq, rfl⟩ := hcut
            have HD := Lib.hid (below_drewN (Below.refl wl.heap.size wl) nq)
            have MM2 := Lib.hid (MM.out.below HD.out)
            clear HD MM c3 s1' s2 s3 x0 x1 x2
            generalize wl.drewN nq = wm at *
            go_wp2_with fail
            go_roundg (P.st.length - (j + 1))
            case rel => exact ⟨j + 1, by omega, rfl, by rw [HNo.out], by go_num, by rw [HNo.out]; exact MM2⟩
            case measure => omega
        · have c3 := box_cell MM.out.p.box 3 (.slice sa P.st.length sc) rfl
          have k1 : ¬ (j : Int) < (P.st.length : Int) := by omega
          obtain rfl : j = P.st.length := by omega
          have HE := Lib.hid (cnt9_end (k := k) (m := P.st.length) (by have := HLn.out; omega))
          go_wp2_with fail
          go_roundg (L.length - (k + 1))
          case rel => exact ⟨k + 1, by omega, rfl, by rw [HE.out], by go_num, by rw [HE.out] at MM; exact MM⟩
          case measure => omega
    · have k1 : ¬ (k : Int) < (L.length : Int) := by omega
      have hm : (k + 1) / 2 = P.st.length := by have := HLn.out; omega
      rw [hm] at MM
      rw [hm]
      go_upto_region 19 with (fail)
      clear k1 hm
      have c3 := box_cell MM.out.p.box 3 (.slice sa P.st.length sc) rfl
      have LE := MM.out.cal.len
      rw [mains_len HSf.out.1 HSf.out.2 _ (Nat.le_refl _)] at LE
      have LE := Lib.hid LE
      go_wp2_with fail
      refine LE.out.mono ?_; rintro e wk ⟨rfl, rfl⟩
      go_wp2_with fail
      go_ret
      exact ⟨rfl, MM.out.bel⟩
end Go.Proofs.YtihohjgjklcnlaaDoor

namespace Go.Proofs.YtihohjgjklcnlaaDoor.lawCertifyBooked
open Go.ChangeShapes Go.WideShapes Go.ChangeAt Go.RowKit
open Go.ChangeMaps (open_string shut_string)

set_option maxRecDepth 100000 in
theorem lifted (os : Os) (started : os.Started) (H : Type) (enc : TypeId × Value → H) :
    ReturnsInHanded {} Tryd.checked os 9 .any (fun w args => (Rows.certifyBookedSpec.pre enc Tryd.prog Tryd.f9 [] false w args ∧ laidMetH Tryd.prog laidList w) ∧ sizedMet enc Tryd.prog Tryd.f9 (OpenSpec.ofChange Rows.certifyBookedSpec) false w args)
      (Rows.certifyBookedSpec.post enc Tryd.prog Tryd.f9 false true false false) := by
  refine returnsInHanded_of_change_and (C := Tryd.checked) (X := fun w _ => laidMetH Tryd.prog laidList w) (fun _ _ _ hh h => h.of_heap hh) own started (by kernel_rfl) Tryd.func9
    (ChangeSpec.witness_shaped (enc := enc) (C := Tryd.checked) (os := os) (X := fun w _ => laidMetH Tryd.prog laidList w) false (World.doorLaid Tryd.prog 400 os) #[.slice none 0 0, .bool false] 8 rfl (World.shaped_of_RefB (by kernel_rfl) (by kernel_rfl)) (by kernel_rfl) (by kernel_rfl) (by kernel_rfl) (door_met os _)) ?_
  intro W base args ds gs before hval0 hW _ _ hL _
  have hval : ∀ (j : Nat) t v, Tryd.f9.params[j]? = some t → args[j]? = some v → Value.okWide Tryd.prog W .any base t v := hval0
  have hW' := hW
  obtain ⟨p, q, hA0, hV, rfl, hfz, hnd⟩ := hW
  have hA : DataW.TrodAll enc Tryd.prog W 0 (fun _ => true) true Tryd.f9.params.toList args.toList ds p := hA0
  rw [Tryd.params9] at hA hval
  obtain ⟨v0, vs0, d0, ds0, p0, q0, hargs, rfl, rfl, h0, r0⟩ := trodAll_cons hA
  obtain ⟨v1, vs1, d1, ds1, p1, q1, rfl, rfl, rfl, h1, r1⟩ := trodAll_cons r0
  obtain ⟨rfl, rfl, rfl⟩ := trodAll_nil r1
  obtain rfl : args = #[v0, v1] := by cases args; simp_all
  obtain ⟨rfl, rfl⟩ := trodVars_none hV
  have k0 := h0
  have lt0 : ∀ x ∈ p0, x.block < W.heap.size := by obtain ⟨m, hm⟩ := k0; exact DataW.trod_lt m _ _ _ hm
  have k1 := h1
  have lt1 : ∀ x ∈ p1, x.block < W.heap.size := by obtain ⟨m, hm⟩ := k1; exact DataW.trod_lt m _ _ _ hm
  obtain ⟨a0, c0, z0, rfl, w0⟩ := open_sixes (hval 0 22 v0 rfl rfl) h0
  obtain ⟨a1, rfl, hd1, hp1⟩ := open_bool Tryd.underlying4 (hval 1 4 v1 rfl rfl) h1
  clear hA0 hval0
  refine (booked9_any a0 c0 z0 a1 W (tab_of_laid hL) w0).mono fun e W' ⟨he, bel⟩ => ?_
  subst he
  exact ⟨_, rfl, _, _, _, [], _, [], hW', trodAll_mk1 (shut_bool Tryd.underlying4 _), (trodAll_cons_mk (Below.trod laidOut (by kernel_rfl) (of_decide_eq_true (by kernel_rfl)) k0 bel lt0) (trodAll_cons_mk (Below.trod laidOut (by kernel_rfl) (of_decide_eq_true (by kernel_rfl)) k1 bel lt1) trodAll_mk0)), rfl, bel.frame _, fun h => by cases h⟩

theorem over : Rows.certifyBookedRow.holds Tryd.pinned (OpenSpec.ofChange Rows.certifyBookedSpec) :=
  OpenClaim.holds_of_wide 9 Tryd.f9 rfl rfl rfl rfl rfl rfl rfl ⟨rfl, rfl, rfl, rfl, rfl⟩ rfl rfl rfl rfl rfl (by kernel_rfl) Tryd.func9 (by kernel_rfl)
    (of_decide_eq_true (by kernel_rfl)) (by unfold Func.isWrapper; rw [if_neg (of_decide_eq_false (by kernel_rfl))]; exact ⟨rfl, rfl⟩)
    (fun os started H enc _ => lifted os started H enc)

theorem proved : Rows.CertifyBookedCardSaid :=
  Claim7.holds_tied_plain_at .later [] [.data] true (true, "5525114c7adf425dbb03f7f3d5bfd400766d8dc32cebf7ba860010d8e3e61684") true
    over (fun _ h => by cases h) (by kernel_rfl) (fun _ h => by cases h) certifyBooked_row_tie rfl ⟨rfl, rfl⟩ (by kernel_rfl) rfl
    (fun f fn hf hfn => by
      obtain rfl : f = 9 := Option.some.inj ((show Tryd.prog.funcNamed "cleanroom/cleanroomlaw09.CertifyBooked" = some 9 by kernel_rfl).symm.trans hf) |>.symm
      obtain rfl : fn = Tryd.f9 := (Option.some.inj (Tryd.func9.symm.trans hfn)).symm
      exact ⟨by kernel_rfl, fun j t ht => by
        rw [Tryd.params9] at ht
        have hm : t ∈ [22, 4] := by simpa using Array.mem_of_getElem? ht
        have hall : ([22, 4].all fun u => !Tryd.prog.wantsStandIn u) = true := by kernel_rfl
        exact (show Tryd.prog.wantsStandIn t = false by simpa using List.all_eq_true.1 hall t hm)⟩)
    (by kernel_rfl)
#print axioms proved
end Go.Proofs.YtihohjgjklcnlaaDoor.lawCertifyBooked
