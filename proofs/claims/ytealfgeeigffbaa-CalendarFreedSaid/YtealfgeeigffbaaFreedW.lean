/-
  The walk of CalendarFreed.
-/
import Derived.Test.YtealfgeeigffbaaOff
import Derived.Deep.QuietTactic
import Derived.BigQuiet
namespace Go.Proofs.Ytealfgeeigffbaa
open Go.RowKit Go.Shelf

abbrev S1 (U V : World) (k : Nat) : Prop := U.heap.size ≤ k ∧ k < V.heap.size
/-- Behind j rounds of bookings of the owner 77. -/
structure FrM (C : Nat) (K0 : Kal.Kal) (W U V : World) (j : Nat) (v : Value) (ml : List Kal.Bk) (K : Kal.Kal) (w : World) : Prop where
  ok : Kal.Ok K
  dr : ∀ i, Kal.drop K 77 i = K0 i
  cnt : (Kal.owned K 77).length = ml.length
  le : ml.length ≤ j
  off : CalOff C K W (fun k => S1 U V k ∨ v.ownBlock = some k) w
  own : BkOwn w V.heap.size v ml
  ch : Ch (fun k => W.heap.size ≤ k ∧ ¬ S1 U V k) V w
  size : W.heap.size ≤ V.heap.size
theorem FrM.lt {C : Nat} {K0 : Kal.Kal} {W U V : World} {j : Nat} {v : Value} {ml : List Kal.Bk} {K : Kal.Kal} {w : World} (h : FrM C K0 W U V j v ml K w) : ∀ k, (S1 U V k ∨ v.ownBlock = some k) → k < w.heap.size := fun k hk => by
  rcases hk with hk | hk
  · have := h.ch.size; omega
  · exact (h.own.lt k hk).2
theorem FrM.no {C : Nat} {K0 : Kal.Kal} {W U V : World} {j : Nat} {v : Value} {ml : List Kal.Bk} {K : Kal.Kal} {w w1 w2 : World} (h : FrM C K0 W U V j v ml K w) (hb : Below w.heap.size w w1)
    (ho : CalOff C K W (fun k => (S1 U V k ∨ v.ownBlock = some k) ∧ k < w1.heap.size) w2) (hc : Ch (fun k => ¬ (S1 U V k ∨ v.ownBlock = some k) ∧ W.heap.size ≤ k) w1 w2) : FrM C K0 W U V (j + 1) v ml K w2 :=
  ⟨h.ok, h.dr, h.cnt, Nat.le_succ_of_le h.le, ho.sub (fun k hk => ⟨hk, Nat.lt_of_lt_of_le (h.lt k hk) hb.size⟩), own_ch (own_below h.own hb) hc (fun k hk hn => hn.1 (.inr hk)),
    h.ch.trans ((Ch.ofBelow hb).trans hc (fun _ _ h => h)) (fun i _ hi => ⟨hi.2, fun hs => hi.1 (.inl hs)⟩), h.size⟩
theorem FrM.yes {C : Nat} {K0 : Kal.Kal} {W U V : World} {j : Nat} {v v' : Value} {ml : List Kal.Bk} {K : Kal.Kal} {w w1 w2 w3 w4 : World} {b : Kal.Bk} (h : FrM C K0 W U V j v ml K w) (hb : Below w.heap.size w w1) (hf : Kal.free K b = true) (hbo : b.o = 77)
    (ho : CalOff C (Kal.book K b) W (fun k => (S1 U V k ∨ v.ownBlock = some k) ∧ k < w1.heap.size) w2) (hc : Ch (fun k => ¬ (S1 U V k ∨ v.ownBlock = some k) ∧ W.heap.size ≤ k) w1 w2) (h3 : Below w2.heap.size w2 w3)
    (hg : w3.grownBy w4 v.ownBlock) (hv : v'.ownBlock = v.ownBlock ∨ v'.ownBlock = some w3.heap.size) (hown : BkOwn w4 V.heap.size v' (ml ++ [b])) : FrM C K0 W U V (j + 1) v' (ml ++ [b]) (Kal.book K b) w4 := by
  have hl : ∀ k, (S1 U V k ∨ v.ownBlock = some k) → k < w1.heap.size := fun _ hk => Nat.lt_of_lt_of_le (h.lt _ hk) hb.size
  have hgc : Ch (fun k => v.ownBlock = some k) w3 w4 := Ch.grown hg (fun _ e => e)
  refine ⟨h.ok.book b, fun i => ?_, ?_, ?_, ?_, hown, ?_, h.size⟩
  · rw [← h.dr i, ← hbo]; exact drop_book K b i
  · have := all_book (fun x => decide (x.o = 77)) K b
    rw [if_pos ⟨hf, by simp [hbo]⟩] at this
    rw [owned_len, this, ← owned_len, h.cnt, List.length_append]; rfl
  · rw [List.length_append]; have := h.le; simp; omega
  · refine (((ho.more h3).ch hgc (fun k hk => ⟨.inl ⟨.inr hk, hl k (.inr hk)⟩, Nat.le_trans h.size (h.own.lt k hk).1⟩))).sub (fun k hk => ?_)
    rcases hk with hk | hk
    · exact .inl ⟨.inl hk, hl k (.inl hk)⟩
    · rcases hv with e | e
      · exact .inl ⟨.inr (e ▸ hk), hl k (.inr (e ▸ hk))⟩
      · rw [e] at hk; injection hk with hk; exact .inr (by have := h3.size; omega)
  · refine ((h.ch.trans ((Ch.ofBelow hb).trans hc (fun _ _ h => h)) (fun i _ hi => ⟨hi.2, fun hs => hi.1 (.inl hs)⟩)).trans ((Ch.ofBelow (S := fun k => v.ownBlock = some k) h3).trans hgc (fun _ _ h => h)) (fun i hi e => ?_))
    have := (h.own.lt i e).1; omega

theorem owned_fold (o : Int) (K0 : Kal.Kal) (O : List Kal.Bk) (hf : ∀ i (h : i < O.length), Kal.free ((O.take i).foldl Kal.book K0) O[i] = true ∧ O[i].o = o) : ∀ i, i ≤ O.length → (Kal.owned ((O.take i).foldl Kal.book K0) o).length = (Kal.owned K0 o).length + i
  | 0, _ => by simp
  | i + 1, h => by
    have ih := owned_fold o K0 O hf i (by omega)
    obtain ⟨h1, h2⟩ := hf i (by omega)
    have := all_book (fun x => decide (x.o = o)) ((O.take i).foldl Kal.book K0) O[i]
    rw [if_pos ⟨h1, by simp [h2]⟩] at this
    rw [fold_take O K0 i (by omega), owned_len, this, ← owned_len, ih]; omega
/-- What the owned bookings are to the calendar without them. -/
def FreedP (K0 : Kal.Kal) (O : List Kal.Bk) : Prop :=
  (∀ i (h : i < O.length), Kal.free ((O.take i).foldl Kal.book K0) O[i] = true ∧ O[i].o = 77) ∧ Kal.owned K0 77 = [] ∧
    (Kal.owned (O.foldl Kal.book K0) 77).length = O.length ∧ ∀ i (h : i + 1 < O.length), Asc (O[i]'(by omega)) O[i + 1]
theorem freed_paper {K K0 : Kal.Kal} (hK : Kal.Ok K) (h0 : Kal.Ok K0) (hd : ∀ i, Kal.drop K 77 i = K0 i) : FreedP K0 (Kal.owned K 77) := by
  have hm : ∀ x ∈ Kal.owned K 77, (∃ i, i < 60 ∧ x ∈ K i) ∧ x.o = 77 := fun x hx => mem_owned.1 hx
  have h77 : ∀ i, ∀ x ∈ K0 i, x ∈ K i ∧ x.o ≠ 77 := fun i x hx => by
    rw [← hd i] at hx
    obtain ⟨a1, a2⟩ := List.mem_filter.1 hx
    exact ⟨a1, by simpa using a2⟩
  have hf : ∀ i (h : i < (Kal.owned K 77).length), Kal.free (((Kal.owned K 77).take i).foldl Kal.book K0) (Kal.owned K 77)[i] = true ∧ (Kal.owned K 77)[i].o = 77 := fun i h =>
    ⟨rebook hK h0 (asc_nodup (owned_asc hK 77)) (fun x hx => (hm x hx).1) (fun i _ x hx => ⟨(h77 i x hx).1, fun hx' => (h77 i x hx).2 (hm x hx').2⟩) i h, (hm _ (List.getElem_mem h)).2⟩
  have hn : Kal.owned K0 77 = [] := List.eq_nil_iff_forall_not_mem.2 (fun x hx => by
    obtain ⟨⟨i, hi, hx⟩, ho⟩ := mem_owned.1 hx
    exact (h77 i x hx).2 ho)
  refine ⟨hf, hn, ?_, fun i h => List.pairwise_iff_getElem.1 (owned_asc hK 77) i (i + 1) (by omega) h (by omega)⟩
  have := owned_fold 77 K0 (Kal.owned K 77) hf _ (Nat.le_refl _)
  rw [List.take_length, hn] at this
  simpa using this

theorem BkOwn.bka {w : World} {B c : Nat} {a : Option Addr} {l : List Kal.Bk} (h : BkOwn w B (.slice a l.length c) l) : BkA w a c l := by
  obtain ⟨a', c', e, h'⟩ := h.form
  injection e with e1 _ e2
  subst e1; subst e2; exact h'

set_option maxRecDepth 100000 in
set_option maxHeartbeats 4000000 in
theorem freedLaw_any (a : Option Addr) (c : Nat) (X : List (List Int)) (a2 : Option Addr) (c2 : Nat) (Y : List (List Int)) (W : World) (h : ArrsA 4 W a c X) (h2 : ArrsA 4 W a2 c2 Y) :
    Calls Try.prog 7 #[.slice a X.length c, .slice a2 Y.length c2] W fun e w' => e = .returned (.bool true) ∧ Below W.heap.size W w' := by
  have H := Lib.hid h; have H2 := Lib.hid h2
  have hLl := someL_len Y
  have HZ := Lib.hid (show ∀ b ∈ someL X, b.o ≠ 77 from fun b hb => by have := (someL_ok hb).2.2.2; omega)
  clear h h2
  obtain ⟨i0, hi0, hz0, hz1, hz2⟩ := info_parts info_booking
  go_enter Try.func7, Try.ntmps7
  go_wp2_with fail
  refine (sane_any W).mono ?_; rintro e w1 ⟨rfl, g1⟩
  have G1 := Lib.hid g1; clear g1
  go_wp2_with fail
  refine (some_is X a c H.out G1.out).mono ?_; rintro e w2 ⟨v, rfl, o2, -, g2⟩
  have O2 := Lib.hid o2; have G2 := Lib.hid g2; clear o2 g2
  generalize someL X = L0 at *
  go_wp2_with fail
  refine (booked_is L0 _ _ O2.out G2.out).mono ?_; rintro e w3 ⟨C, rfl, h3, -⟩
  have H3 := Lib.hid h3; clear h3 O2
  have HOk := Lib.hid (bookAll_ok L0)
  have HK0 := Lib.hid (show ∀ i, Kal.drop (bookAll L0) 77 i = bookAll L0 i from fun i => List.filter_eq_self.2 (fun x hx => by have := HZ.out x (mem_bookAll hx); simp [this]))
  clear HZ
  generalize bookAll L0 = K0 at *
  go_wp2_with fail
  refine (clone_is H3.out).mono ?_; rintro e w4 ⟨D, rfl, h4⟩
  have H4 := Lib.hid h4; clear h4
  go_wp2_with fail
  refine (refSome_any Y a2 c2 w4 (H2.out.below (H3.out.below H4.out.bel).bel)).mono ?_; rintro e w5 ⟨v, rfl, o5, g5⟩
  have O5 := Lib.hid o5; have G5 := Lib.hid g5; clear o5 g5
  generalize someL Y = L at *
  obtain ⟨al, cl, rfl, hA⟩ := O5.out.form
  have hcl : L.length ≤ cl ∧ cl ≤ maxLen := ⟨hA.1, hA.2.1⟩
  obtain ⟨hc1, hc2⟩ := hcl
  unfold maxLen at hc2
  have HS0 := Lib.hid (show FrM C K0 W w3 w5 0 (.slice none 0 0) [] K0 w5 from ⟨HOk.out, HK0.out, by
    rw [List.length_nil, List.length_eq_zero_iff]
    refine List.eq_nil_iff_forall_not_mem.2 (fun x hx => ?_)
    obtain ⟨⟨i, hi, hx⟩, ho⟩ := mem_owned.1 hx
    rw [← HK0.out i] at hx
    have := (List.mem_filter.1 hx).2
    simp [ho] at this, Nat.le_refl _, (H3.out.off (below_step H4.out.bel G5.out)).sub (fun k hk => by rcases hk with hk | hk; exact hk.1; cases hk), BkOwn.nil _ _, Ch.refl _ _, (below_step H3.out.bel (below_step H4.out.bel G5.out)).size⟩)
  clear hA
  go_wp2_with fail
  go_loopw [8, 10] (fun vv iv wr => ∃ (j : Nat) (v : Value) (ml : List Kal.Bk) (K : Kal.Kal), j ≤ L.length ∧ j ≤ 10 ∧ v = vv ∧ iv = .int .i64 (j : Int) ∧ Hid (FrM C K0 W w3 w5 j v ml K wr)) (fun _ iv _ => L.length - (intOf iv).toNat)
  case atStart => exact ⟨0, _, _, _, by omega, by omega, rfl, rfl, HS0⟩
  case round =>
    obtain ⟨j, v, ml, K, hj, hj10, rfl, rfl, HF⟩ := hrel
    have HL := Lib.hid (show BkOwn wr w4.heap.size (.slice al L.length cl) L from own_ch O5.out HF.out.ch (fun k hk hn => hn.2 ⟨Nat.le_trans H4.out.bel.size (O5.out.lt k hk).1, (O5.out.lt k hk).2⟩))
    by_cases hlt : j < L.length ∧ j < 10
    · obtain ⟨hlt, hj1⟩ := hlt
      obtain ⟨a', c', e', hA⟩ := HL.out.form
      injection e' with e1 _ e2
      subst e1; subst e2
      obtain ⟨b, off, rfl, hb1, hc⟩ := hA.at (by omega)
      obtain ⟨x0, x1, x2, x3⟩ := hc j hlt
      have hml := HF.out.le
      have j0 : (0 : Int) ≤ (j : Int) := by omega
      have j1 : (j : Int) < (L.length : Int) := by omega
      have j2 : (j : Int) < 10 := by omega
      clear hc hA
      generalize L[j] = x at *
      have HX := Lib.hid (HF.out.off)
      have HB := Lib.hid (book_off ⟨x.tool, x.s, x.e, 77⟩ (HX.out.more (below_new wr (bkObj ⟨x.tool, x.s, x.e, 77⟩))))
      obtain ⟨y, hy⟩ : ∃ y : Kal.Bk, y = ⟨x.tool, x.s, x.e, 77⟩ := ⟨_, rfl⟩
      have y0 : y.tool = x.tool := by rw [hy]
      have y1 : y.s = x.s := by rw [hy]
      have y2 : y.e = x.e := by rw [hy]
      have y3 : y.o = 77 := by rw [hy]
      rw [← hy] at HB
      by_cases hf : Kal.free K y = true
      · rw [if_pos hf] at HB
        go_wp2_with fail
        rw [show (#[Value.int IntKind.i64 x.tool, Value.int IntKind.i64 x.s, Value.int IntKind.i64 x.e, Value.int IntKind.i64 77] : Array Value) = #[.int .i64 y.tool, .int .i64 y.s, .int .i64 y.e, .int .i64 y.o] by rw [y0, y1, y2, y3]]
        refine HB.out.mono ?_; rintro e w6 ⟨rfl, ho, hc⟩
        have hloc : w6.heap[wr.heap.size]? = some (.cells #[.int .i64 y.tool, .int .i64 y.s, .int .i64 y.e, .int .i64 y.o] 35) := (hc.block _ (by rw [World.size_alloc]; omega) (fun hn => hn.1 (.inr (Nat.le_refl _)))).trans (heap_alloc_new wr _)
        have c0 := box_cell hloc 0 _ rfl; have c1 := box_cell hloc 1 _ rfl; have c3 := box_cell hloc 2 _ rfl; have c4 := box_cell hloc 3 _ rfl
        have hb0 : Below wr.heap.size wr (wr.alloc (bkObj y)) := below_new _ _
        have ho2 : CalOff C (Kal.book K y) W (fun k => (S1 w3 w5 k ∨ v.ownBlock = some k) ∧ k < (wr.alloc (bkObj y)).heap.size) w6 := ho.sub (fun k hk => ⟨.inl hk.1, hk.2⟩)
        have hc2 : Ch (fun k => ¬ (S1 w3 w5 k ∨ v.ownBlock = some k) ∧ W.heap.size ≤ k) (wr.alloc (bkObj y)) w6 := hc.mono (fun k hk => ⟨fun hs => hk.1 (.inl hs), hk.2⟩)
        have hown : BkOwn w6 w5.heap.size v ml := own_ch (own_below HF.out.own hb0) hc2 (fun k hk hn => hn.1 (.inr hk))
        have hw5 : w5.heap.size ≤ w6.heap.size := by have := HF.out.ch.size; have := hb0.size; have := hc.size; omega
        have HY := Lib.hid (fun v' w3' w4' hg hv hown' => FrM.yes (v' := v') (w3 := w3') (w4 := w4') HF.out hb0 hf y3 ho2 hc2 hg hv hown')
        have HOwn := Lib.hid (hown.alloc (bkObj y))
        have HNW := Lib.hid (World.news_of_block (w := w6.alloc (bkObj y)) (B := w6.heap.size) (cs := #[.int .i64 y.tool, .int .i64 y.s, .int .i64 y.e, .int .i64 y.o]) (t := 35) (fr := (0, 0)) (heap_alloc_new w6 _))
        clear ho hc hloc hb0 ho2 hc2 hown hf y0 y1 y2 y3 hy
        go_wp2_with (at_builtin; refine wpList_append_own_at _ rfl _ _ 23 rfl w5.heap.size 35 i0 _ 4 32 Try.underlying23 hi0 hz0 hz1 hz2 rfl (by decide) _ _ _ rfl HOwn.out ⟨w6.heap.size, 0, none⟩ 1 1 [.int .i64 y.tool, .int .i64 y.s, .int .i64 y.e, .int .i64 y.o] rfl rfl HNW.out ?c2 ?c3 ?c4 ?c5 ?_)
        case c2 => simp [Value.oneCell']
        case c3 => unfold maxLen; omega
        case c4 => omega
        case c5 => simp; omega
        intro v' w7 hown' hgrow _ hv'
        have HF2 := Lib.hid (HY.out v' _ w7 (below_new w6 (bkObj y)) hgrow (by rwa [World.size_alloc]) (BkOwn.snoc hown'))
        clear hown' hgrow hv' HY
        go_wp2_with fail
        go_roundw
        case rel => exact ⟨j + 1, _, _, _, hlt, by omega, rfl, by go_num, HF2⟩
        case measure => simp [intOf]; omega
      · rw [if_neg hf] at HB
        go_wp2_with fail
        rw [show (#[Value.int IntKind.i64 x.tool, Value.int IntKind.i64 x.s, Value.int IntKind.i64 x.e, Value.int IntKind.i64 77] : Array Value) = #[.int .i64 y.tool, .int .i64 y.s, .int .i64 y.e, .int .i64 y.o] by rw [y0, y1, y2, y3]]
        refine HB.out.mono ?_; rintro e w6 ⟨rfl, ho, hc⟩
        rw [show Kal.book K y = K by unfold Kal.book; rw [if_neg hf]] at ho
        have HF2 := Lib.hid (HF.out.no (below_new wr (bkObj y)) (ho.sub (fun k hk => ⟨.inl hk.1, hk.2⟩)) (hc.mono (fun k hk => ⟨fun hs => hk.1 (.inl hs), hk.2⟩)))
        clear ho hc hf
        go_wp2_with fail
        go_roundw
        case rel => exact ⟨j + 1, _, _, _, hlt, by omega, rfl, by go_num, HF2⟩
        case measure => simp [intOf]; omega
    · rename World => wo
      have hN : ¬ (j : Int) < (L.length : Int) ∨ (j : Int) < (L.length : Int) ∧ ¬ (j : Int) < 10 := by omega
      have hml := HF.out.le
      have HP := Lib.hid (freed_paper HF.out.ok HOk.out HF.out.dr)
      have HOw := Lib.hid (owned_is 77 HF.out.off.is)
      have HFr := Lib.hid (fun w6 (g : Below wo.heap.size wo w6) => free_off 77 (HF.out.off.more g))
      rw [show Kal.drop K 77 = K0 from funext HF.out.dr] at HFr
      have hcnt := HF.out.cnt
      obtain ⟨av, cv, rfl, -⟩ := HF.out.own.form
      generalize Kal.owned K 77 = O at HP HOw HFr hcnt
      have hcn : (O.length : Int) = (ml.length : Int) := by rw [hcnt]
      rw [hcn] at HFr
      rcases hN with j1 | ⟨j1, j2⟩
      all_goals
        go_wp2_with fail
        refine HOw.out.mono ?_; rintro e w6 ⟨v6, rfl, o6, g6⟩
        have O6 := Lib.hid o6; have G6 := Lib.hid g6
        obtain ⟨ao, co, rfl, hao⟩ := o6.form
        have hco : O.length ≤ co ∧ co ≤ maxLen := ⟨hao.1, hao.2.1⟩
        obtain ⟨hco1, hco2⟩ := hco
        unfold maxLen at hco2
        clear o6 g6 hao
        go_wp2_with fail
        refine (HFr.out _ G6.out).mono ?_; rintro e w7 ⟨rfl, ho, hc⟩
        have HO7 := Lib.hid ho; have HC7 := Lib.hid hc
        clear ho hc
        go_wp2_with fail
        have HD7 := Lib.hid ((H4.out.below G5.out).keep (W := W) (HF.out.ch.trans ((Ch.ofBelow G6.out).trans HC7.out (fun _ _ h => h)) (fun i _ hi => ⟨hi.2, fun hs => hi.1 (.inl (.inl hs))⟩)) (fun k h1 h2 h3 => h3.2 ⟨h1, h2⟩) HO7.out.is.bel H3.out.bel.size)
        have O7 := Lib.hid (show BkOwn w7 wo.heap.size (.slice ao O.length co) O from own_ch O6.out HC7.out (fun k hk hn => hn.1 (.inr (O6.out.lt k hk).1)))
        have HF7 := Lib.hid (HO7.out.sub (S' := S1 wo w6) (fun k hk => ⟨.inr hk.1, hk.2⟩))
        have hbo := Lib.hid (show ∀ k, (Value.slice ao O.length co).ownBlock = some k → S1 wo w6 k from fun k hk => O6.out.lt k hk)
        have hs67 := HC7.out.size
        clear HO7 HC7 HFr HOw O6 O5 H3 G1 G2 HS0
        refine (equal_is HF7.out.is HD7.out).mono ?_; rintro e w8 ⟨rfl, g8⟩
        have HF8 := Lib.hid (HF7.out.below g8); have O8 := Lib.hid (own_below O7.out g8)
        have hs78 := Nat.le_trans hs67 g8.size
        clear g8 HF7 O7 HD7 hs67
        go_wp2_with fail
        have HOw2 := owned_is 77 HF8.out.is
        rw [HP.out.2.1] at HOw2
        refine HOw2.mono ?_; rintro e w9 ⟨v9, rfl, o9, g9⟩
        obtain ⟨a9, c9, rfl, -⟩ := o9.form
        have HF9 := Lib.hid (HF8.out.below g9); have O9 := Lib.hid (own_below O8.out g9)
        have hs69 := Nat.le_trans hs78 g9.size
        clear g9 HF8 O8 HOw2 o9 hs78
        go_wp2_with fail
        have HE := Lib.hid (show CalOff C ((O.take 0).foldl Kal.book K0) W (S1 wo w6) w9 from HF9.out)
        clear HF9
        go_loopw [14] (fun iv wq => ∃ i : Nat, i ≤ O.length ∧ iv = .int .i64 (i : Int) ∧ Hid (CalOff C ((O.take i).foldl Kal.book K0) W (S1 wo w6) wq) ∧ Hid (BkOwn wq wo.heap.size (.slice ao O.length co) O) ∧ w6.heap.size ≤ wq.heap.size) (fun iv _ => O.length - (intOf iv).toNat)
        case atStart => exact ⟨0, by omega, rfl, HE, O9, hs69⟩
        case round =>
          obtain ⟨i, hi, rfl, HQ, HR, hs6⟩ := hrel
          by_cases hil : i < O.length
          · obtain ⟨g, off, rfl, hg, hc⟩ := HR.out.bka.at (by omega)
            obtain ⟨x0, x1, x2, x3⟩ := hc i hil
            obtain ⟨hfr, h77⟩ := HP.out.1 i hil
            have HBk := book_off O[i] HQ.out
            rw [if_pos hfr, ← fold_take O K0 i hil, show bkV O[i] = .agg #[.int .i64 O[i].tool, .int .i64 O[i].s, .int .i64 O[i].e, .int .i64 77] by unfold bkV; rw [h77]] at HBk
            have HBk := Lib.hid HBk
            have q0 : (0 : Int) ≤ (i : Int) := by omega
            have q1 : (i : Int) < (ml.length : Int) := by omega
            have hS : ∀ k, S1 wo w6 k → k < wr.heap.size := fun k hk => by omega
            clear hc hfr
            rw [h77] at x3
            go_wp2_with fail
            refine HBk.out.mono ?_; rintro e w10 ⟨rfl, ho, hc⟩
            have HQ2 := Lib.hid (ho.sub (S' := S1 wo w6) (fun k hk => ⟨hk, hS k hk⟩))
            have HR2 := Lib.hid (show BkOwn w10 wo.heap.size (.slice (some ⟨g, off, none⟩) O.length co) O from own_ch HR.out hc (fun k hk hn => hn.1 (hbo.out k hk)))
            have hs10 := Nat.le_trans hs6 hc.size
            clear ho hc HBk x0 x1 x2 x3
            obtain ⟨g', off', e', hg', hc'⟩ := HR2.out.bka.at (by omega)
            injection e' with e'; injection e' with e1 e2 _
            subst e1; subst e2
            obtain ⟨x0, x1, x2, x3⟩ := hc' i hil
            rcases i with _ | i
            · clear hc' h77
              generalize O[0] = x at *
              have z0 : decide ((0 : Int) < 0) = false := decide_eq_false (by omega)
              clear q0 q1
              go_wp2_with fail
              go_quiet (fail)
              go_wp2_with fail
              exact ⟨⟨1, hil, rfl, Lib.hid (HQ2.out.below (below_drewN (Below.refl _ _) nq)), Lib.hid (own_below HR2.out (below_drewN (Below.refl _ _) nq)), hs10⟩, by simp [intOf]; omega⟩
            · have HA := HP.out.2.2.2 i hil
              obtain ⟨y0, y1, y2, y3⟩ := hc' i (by omega)
              have z0 : decide ((0 : Int) < ((i + 1 : Nat) : Int)) = true := decide_eq_true (by omega)
              have z1 : IntKind.i64.wrap (((i + 1 : Nat) : Int) - 1) = (i : Int) := by rw [IntWalk.i64_in _ ⟨by omega, by omega⟩]; omega
              have z2 : (i : Int) < (ml.length : Int) := by omega
              have z3 : (0 : Int) ≤ (i : Int) := by omega
              clear hc' h77
              generalize O[i + 1] = x at *
              generalize O[i]'(by omega) = y at *
              rcases HA with h1 | ⟨h1, h2⟩
              · have d1 : decide (x.tool < y.tool) = false := decide_eq_false (by omega)
                have d2 : (x.tool == y.tool) = false := by rw [beq_eq_false_iff_ne]; intro e; omega
                clear h1
                go_wp2_with fail
                go_quiet (fail)
                go_wp2_with fail
                exact ⟨⟨i + 2, hil, by go_num, Lib.hid (HQ2.out.below (below_drewN (Below.refl _ _) nq)), Lib.hid (own_below HR2.out (below_drewN (Below.refl _ _) nq)), hs10⟩, by simp [intOf]; omega⟩
              · have d1 : decide (x.tool < y.tool) = false := decide_eq_false (by omega)
                have d2 : (x.tool == y.tool) = true := by rw [beq_iff_eq, h1]
                have d3 : decide (x.s ≤ y.s) = false := decide_eq_false (by omega)
                clear h1 h2
                go_wp2_with fail
                go_quiet (fail)
                go_wp2_with fail
                exact ⟨⟨i + 2, hil, by go_num, Lib.hid (HQ2.out.below (below_drewN (Below.refl _ _) nq)), Lib.hid (own_below HR2.out (below_drewN (Below.refl _ _) nq)), hs10⟩, by simp [intOf]; omega⟩
          · have q1 : ¬ (i : Int) < (ml.length : Int) := by omega
            obtain rfl : i = O.length := by omega
            rw [List.take_length] at HQ
            have HFF := free_off 77 HQ.out
            rw [HP.out.2.2.1, hcn] at HFF
            go_wp2_with fail
            refine HFF.mono ?_; rintro e wz ⟨rfl, ho, -⟩
            have HZ := Lib.hid ho.is.bel
            clear ho
            go_wp2_with fail
            go_ret
            exact ⟨rfl, HZ.out⟩
end Go.Proofs.Ytealfgeeigffbaa
