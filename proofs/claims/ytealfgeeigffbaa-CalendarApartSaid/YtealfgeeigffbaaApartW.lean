/-
  The walk of CalendarApart.
-/
import Derived.Test.YtealfgeeigffbaaFirstW
namespace Go.Proofs.Ytealfgeeigffbaa
open Go.RowKit Go.Shelf

def ofT (i : Nat) (b : Kal.Bk) : Bool := decide (b.tool = (i : Int))
theorem book_other {K : Kal.Kal} {b : Kal.Bk} {i : Nat} (h : ¬ b.tool = (i : Int)) : Kal.book K b i = K i := by
  unfold Kal.book
  split
  · rename_i hf
    unfold Kal.put
    rw [if_neg]
    intro e
    unfold Kal.free at hf
    rw [Bool.and_eq_true] at hf
    have := Kal.okB_iff.1 hf.1
    omega
  · rfl
theorem book_same {K K' : Kal.Kal} {b : Kal.Bk} {i : Nat} (h : b.tool = (i : Int)) (e : K i = K' i) : Kal.book K b i = Kal.book K' b i := by
  have ht : b.tool.toNat = i := by omega
  have hf : Kal.free K b = Kal.free K' b := by unfold Kal.free; rw [ht, e]
  unfold Kal.book
  rw [hf]
  split
  · unfold Kal.put; rw [if_pos ht.symm, if_pos ht.symm, e]
  · exact e
theorem fold_apart (i : Nat) : ∀ (L : List Kal.Bk) (K K' : Kal.Kal), K i = K' i → L.foldl Kal.book K i = (L.filter (ofT i)).foldl Kal.book K' i
  | [], K, K', h => h
  | b :: L, K, K', h => by
    by_cases hb : b.tool = (i : Int)
    · rw [List.filter_cons_of_pos (by simpa [ofT] using hb)]
      exact fold_apart i L _ _ (book_same hb h)
    · rw [List.filter_cons_of_neg (by simpa [ofT] using hb)]
      exact fold_apart i L _ _ ((book_other hb).trans h)
theorem fold_none (i : Nat) : ∀ (L : List Kal.Bk) (K : Kal.Kal), (∀ b ∈ L, ¬ b.tool = (i : Int)) → L.foldl Kal.book K i = K i
  | [], K, _ => rfl
  | b :: L, K, h => (fold_none i L _ (fun x hx => h x (by simp [hx]))).trans (book_other (h b (by simp)))
theorem bookAll_apart (L : List Kal.Bk) (i : Nat) : bookAll (L.filter (ofT i)) i = bookAll L i ∧ ∀ j, j ≠ i → bookAll (L.filter (ofT i)) j = [] := by
  refine ⟨(fold_apart i L _ _ rfl).symm, fun j hj => ?_⟩
  refine (fold_none j _ _ (fun b hb e => ?_)).trans rfl
  have := (List.mem_filter.1 hb).2
  unfold ofT at this
  simp only [decide_eq_true_eq] at this
  omega
theorem len_one {K : Kal.Kal} {i : Nat} (hi : i < 60) (h : ∀ j, j ≠ i → K j = []) : (Kal.all K).length = (K i).length := by
  have : ∀ k, (Kal.upTo K k).length = if i < k then (K i).length else 0 := by
    intro k
    induction k with
    | zero => simp [Kal.upTo]
    | succ k ih =>
      rw [Kal.upTo_succ, List.length_append, ih]
      by_cases e : k = i
      · subst e; simp
      · rw [h k e]
        by_cases h1 : i < k
        · rw [if_pos h1, if_pos (by omega)]; simp
        · rw [if_neg h1, if_neg (by omega)]; simp
  unfold Kal.all; rw [this 60, if_pos hi]
theorem filter_snoc {L : List Kal.Bk} {i k : Nat} (h : k < L.length) : (L[k].tool = (i : Int) → (L.take (k + 1)).filter (ofT i) = (L.take k).filter (ofT i) ++ [L[k]]) ∧ (¬ L[k].tool = (i : Int) → (L.take (k + 1)).filter (ofT i) = (L.take k).filter (ofT i)) := by
  rw [List.take_succ_eq_append_getElem h, List.filter_append]
  exact ⟨fun e => by simp [ofT, e], fun e => by simp [ofT, e]⟩

set_option maxRecDepth 100000 in
set_option maxHeartbeats 4000000 in
theorem apartLaw_any (a : Option Addr) (c : Nat) (X : List (List Int)) (tool start len : Int) (W : World) (h : ArrsA 4 W a c X) (t1 : -9223372036854775808 ≤ tool) (t2 : tool ≤ 9223372036854775807) (s1 : -9223372036854775808 ≤ start) (s2 : start ≤ 9223372036854775807) (l1 : -9223372036854775808 ≤ len) (l2 : len ≤ 9223372036854775807) :
    Calls Try.prog 8 #[.slice a X.length c, .int .i64 tool, .int .i64 start, .int .i64 len] W fun e w' => e = .returned (.bool true) ∧ Below W.heap.size W w' := by
  have H := Lib.hid h
  have P1 := Lib.hid (fun w => pick_any tool 6 w ⟨t1, t2⟩ (by omega))
  have P2 := Lib.hid (fun w => pick_any start 400 w ⟨s1, s2⟩ (by omega))
  have P3 := Lib.hid (fun w => pick_any len 60 w ⟨l1, l2⟩ (by omega))
  have b1 := pickZ_bd (c := tool) (n := 6) (by omega)
  have b2 := pickZ_bd (c := start) (n := 400) (by omega)
  have b3 := pickZ_bd (c := len) (n := 60) (by omega)
  obtain ⟨i, hi⟩ : ∃ i : Nat, pickZ tool 6 = (i : Int) := ⟨(pickZ tool 6).toNat, by omega⟩
  rw [hi] at P1 b1
  have hi6 : i < 60 := by omega
  have HKE := Lib.hid (bookAll_apart (someL X) i)
  have hLl := someL_len X
  clear h hi t1 t2 s1 s2 l1 l2
  generalize pickZ start 400 = f at *
  generalize pickZ len 60 = n0 at *
  obtain ⟨i0, hi0, hz0, hz1, hz2⟩ := info_parts info_booking
  go_enter Try.func8, Try.ntmps8
  go_wp2_with fail
  refine (sane_any W).mono ?_; rintro e w1 ⟨rfl, g1⟩
  have G1 := Lib.hid g1; clear g1
  go_wp2_with fail
  refine (P1.out _).mono ?_; rintro e w' ⟨rfl, rfl⟩
  go_wp2_with fail
  refine (some_is X a c H.out G1.out).mono ?_; rintro e w2 ⟨v, rfl, o2, -, g2⟩
  have O2 := Lib.hid o2; have G2 := Lib.hid g2; clear o2 g2
  generalize someL X = L at *
  obtain ⟨al, cl, rfl, hA⟩ := O2.out.form
  have HA := Lib.hid hA; clear hA
  go_wp2_with fail
  go_loopw [12, 13] (fun vv iv wr => ∃ (k : Nat) (v : Value), k ≤ L.length ∧ v = vv ∧ iv = .int .i64 (k : Int) ∧ Hid (BkOwn wr w2.heap.size v ((L.take k).filter (ofT i))) ∧ Hid (Below w2.heap.size w2 wr)) (fun _ iv _ => L.length - (intOf iv).toNat)
  case atStart => exact ⟨0, _, by omega, rfl, rfl, Lib.hid (BkOwn.nil _ _), Lib.hid (Below.refl _ _)⟩
  case round =>
    obtain ⟨k, v, hk, rfl, rfl, HV, HB⟩ := hrel
    by_cases hlt : k < L.length
    · obtain ⟨b, off, rfl, hb1, hc⟩ := (HA.out.below HB.out).at (by omega)
      obtain ⟨x0, x1, x2, x3⟩ := hc k hlt
      have HS := Lib.hid (filter_snoc (i := i) hlt)
      have hln : ((L.take k).filter (ofT i)).length ≤ 40 := Nat.le_trans (List.length_filter_le _ _) (by rw [List.length_take]; omega)
      have k0 : (0 : Int) ≤ (k : Int) := by omega
      have k1 : (k : Int) < (L.length : Int) := by omega
      have hs := HB.out.size
      clear hc
      generalize L[k] = x at *
      by_cases ht : x.tool = (i : Int)
      · have e1 : (x.tool == (i : Int)) = true := by rw [beq_iff_eq]; exact ht
        have HS2 := Lib.hid (HS.out.1 ht)
        have HO := Lib.hid (HV.out.alloc (bkObj x))
        have HNW := Lib.hid (World.news_of_block (w := wr.alloc (bkObj x)) (B := wr.heap.size) (cs := #[.int .i64 x.tool, .int .i64 x.s, .int .i64 x.e, .int .i64 x.o]) (t := 35) (fr := (0, 0)) (heap_alloc_new wr _))
        clear ht
        go_wp2_with (at_builtin; refine wpList_append_own _ rfl _ _ 23 rfl w2.heap.size 35 i0 _ 4 32 Try.underlying23 hi0 hz0 hz1 hz2 rfl (by decide) _ _ _ rfl HO.out ⟨wr.heap.size, 0, none⟩ 1 1 [.int .i64 x.tool, .int .i64 x.s, .int .i64 x.e, .int .i64 x.o] rfl rfl HNW.out ?c2 ?c3 ?c4 ?c5 ?_)
        case c2 => simp [Value.oneCell']
        case c3 => unfold maxLen; omega
        case c4 => omega
        case c5 => omega
        intro v' w3 hown' hgrow _
        have O3 := Lib.hid (show BkOwn w3 w2.heap.size v' ((L.take (k + 1)).filter (ofT i)) by rw [HS2.out]; exact BkOwn.snoc hown')
        have G3 := Lib.hid (HB.out.trans (((Below.refl w2.heap.size wr).alloc hs (bkObj x)).grown hgrow (by simp; omega) (fun kk e => (HV.out.lt kk e).1)))
        clear hown' hgrow
        go_wp2_with fail
        go_roundw
        case rel => exact ⟨k + 1, _, hlt, rfl, by go_num, O3, G3⟩
        case measure => simp [intOf]; omega
      · have e1 : (x.tool == (i : Int)) = false := by rw [beq_eq_false_iff_ne]; exact ht
        have HS2 := Lib.hid (HS.out.2 ht)
        clear ht
        go_wp2_with fail
        go_roundw
        case rel => exact ⟨k + 1, _, hlt, rfl, by go_num, by rw [HS2.out]; exact HV, HB⟩
        case measure => simp [intOf]; omega
    · have HT := Lib.hid (show (L.take k).filter (ofT i) = L.filter (ofT i) by rw [List.take_of_length_le (by omega)])
      rw [HT.out] at HV
      have k1 : ¬ (k : Int) < (L.length : Int) := by omega
      have HBW := Lib.hid (G2.out.trans (HB.out.mono G2.out.size))
      have HO2 := Lib.hid (show BkOwn wr W.heap.size (.slice al L.length cl) L from own_ch O2.out (S := fun j => w2.heap.size ≤ j) ⟨HB.out.os, HB.out.tape, HB.out.output, HB.out.size, fun j _ hn => HB.out.block j (by omega)⟩ (fun j hj => by have := (O2.out.lt j hj).2; omega))
      go_wp2_with fail
      refine (booked_is L _ _ HO2.out HBW.out).mono ?_; rintro e w3 ⟨C, rfl, h3, g3⟩
      have H3 := Lib.hid h3; have HV3 := Lib.hid (own_below HV.out g3); clear h3 g3
      go_wp2_with fail
      refine (booked_is _ _ _ HV3.out H3.out.bel).mono ?_; rintro e w4 ⟨D, rfl, h4, g4⟩
      have H4 := Lib.hid h4; have H34 := Lib.hid (H3.out.below g4); clear h4 g4
      have HK1 := Lib.hid (HKE.out.1); have HL1 := Lib.hid (len_one hi6 HKE.out.2)
      generalize bookAll (L.filter (ofT i)) = K2 at *
      generalize bookAll L = K1 at *
      go_wp2_with fail
      refine (P2.out _).mono ?_; rintro e w' ⟨rfl, rfl⟩
      go_wp2_with fail
      refine (P3.out _).mono ?_; rintro e w' ⟨rfl, rfl⟩
      go_wp2_with fail
      obtain ⟨n, hn⟩ : ∃ n : Int, 1 + n0 = n := ⟨_, rfl⟩
      have hn0 : 1 ≤ n ∧ n ≤ 60 := by omega
      rw [hn]
      clear hn
      obtain ⟨hn1, hn2⟩ := hn0
      have htool : Kal.isTool (i : Int) = true := by unfold Kal.isTool; simp; omega
      have HF1 := Lib.hid (first_is (i : Int) f n H34.out ⟨by omega, by omega⟩ ⟨by omega, by omega⟩)
      have HF2 := Lib.hid (show ∀ w, CalIs D K2 W w → Calls Try.prog 19 #[.pointer (some ⟨D, 0, none⟩), .int .i64 (i : Int), .int .i64 f, .int .i64 n] w (FirstPost (firstK K1 (i : Int) f n) w) from fun w hw => by
        have := first_is (i : Int) f n hw ⟨by omega, by omega⟩ ⟨by omega, by omega⟩
        rw [show firstK K2 (i : Int) f n = firstK K1 (i : Int) f n by unfold firstK; rw [Int.toNat_natCast, HK1.out]] at this
        exact this)
      have HY1 := Lib.hid (fun w (hw : CalIs C K1 W w) => busy_is (i : Int) f (f + n) hw)
      have HY2 := Lib.hid (show ∀ w, CalIs D K2 W w → Calls Try.prog 21 #[.pointer (some ⟨D, 0, none⟩), .int .i64 (i : Int), .int .i64 f, .int .i64 (f + n)] w fun r w' => r = .returned (.bool (busyK K1 (i : Int) f (f + n))) ∧ Below w.heap.size w w' from fun w hw => by
        have := busy_is (i : Int) f (f + n) hw
        rw [show busyK K2 (i : Int) f (f + n) = busyK K1 (i : Int) f (f + n) by unfold busyK; rw [Int.toNat_natCast, HK1.out]] at this
        exact this)
      have HQ1 := Lib.hid (show ∀ w, CalIs C K1 W w → Calls Try.prog 24 #[.pointer (some ⟨C, 0, none⟩), .int .i64 (i : Int)] w (NewRow w (K1 i)) from fun w hw => by
        have := list_is (i : Int) hw; rw [if_pos htool, Int.toNat_natCast] at this; exact this)
      have HQ2 := Lib.hid (show ∀ w, CalIs D K2 W w → Calls Try.prog 24 #[.pointer (some ⟨D, 0, none⟩), .int .i64 (i : Int)] w (NewRow w (K1 i)) from fun w hw => by
        have := list_is (i : Int) hw; rw [if_pos htool, Int.toNat_natCast, HK1.out] at this; exact this)
      have HN2 := Lib.hid (show ∀ w, CalIs D K2 W w → Calls Try.prog 28 #[.pointer (some ⟨D, 0, none⟩)] w fun e w' => e = .returned (.int .i64 ((K1 i).length : Int)) ∧ w = w' from fun w hw => by
        have := len_is hw; rw [HL1.out, HK1.out] at this; exact this)
      have HSm := Lib.hid (show ∀ (w3 : World) (v v' : Value) (B1 B2 : Nat), BkOwn w3 B1 v (K1 i) → BkOwn w3 B2 v' (K1 i) → Calls Try.prog 23 #[v, v'] w3 fun e w' => e = .returned (.bool true) ∧ Below w3.heap.size w3 w' from fun w3 v v' B1 B2 h1 h2 => by
        obtain ⟨a, m, rfl, ha⟩ := h1.form
        obtain ⟨a', m', rfl, ha'⟩ := h2.form
        have := refSame_any _ _ a m a' m' w3 ha ha'
        rw [decide_eq_true rfl] at this
        exact this)
      clear htool
      generalize K1 i = l at *
      unfold FirstPost firstV at HF1 HF2
      generalize (firstK K1 (i : Int) f n).getD 0 = r1 at *
      generalize (firstK K1 (i : Int) f n).isSome = r2 at *
      generalize busyK K1 (i : Int) f (f + n) = r3 at *
      refine HF1.out.mono ?_; rintro e w5 ⟨rfl, g5⟩
      have A5 := Lib.hid (H34.out.below g5); have B5 := Lib.hid (H4.out.below g5); clear g5
      go_wp2_with fail
      refine (HF2.out _ B5.out).mono ?_; rintro e w6 ⟨rfl, g6⟩
      have A6 := Lib.hid (A5.out.below g6); have B6 := Lib.hid (B5.out.below g6); clear g6
      go_wp2_with fail
      refine (HY1.out _ A6.out).mono ?_; rintro e w7 ⟨rfl, g7⟩
      have A7 := Lib.hid (A6.out.below g7); have B7 := Lib.hid (B6.out.below g7); clear g7
      go_wp2_with fail
      refine (HY2.out _ B7.out).mono ?_; rintro e w8 ⟨rfl, g8⟩
      have A8 := Lib.hid (A7.out.below g8); have B8 := Lib.hid (B7.out.below g8); clear g8
      go_wp2_with fail
      refine (HQ1.out _ A8.out).mono ?_; rintro e w9 ⟨v9, rfl, o9, g9⟩
      have A9 := Lib.hid (A8.out.below g9); have B9 := Lib.hid (B8.out.below g9); have O9 := Lib.hid o9; clear g9 o9
      go_wp2_with fail
      refine (HQ2.out _ B9.out).mono ?_; rintro e w10 ⟨v10, rfl, o10, g10⟩
      have A10 := Lib.hid (A9.out.below g10); have B10 := Lib.hid (B9.out.below g10); have O10 := Lib.hid o10; have O9' := Lib.hid (own_below O9.out g10); clear g10 o10
      go_wp2_with fail
      refine (HSm.out _ _ _ _ _ O9'.out O10.out).mono ?_; rintro e w11 ⟨rfl, g11⟩
      have A11 := Lib.hid (A10.out.below g11); have B11 := Lib.hid (B10.out.below g11); clear g11
      go_wp2_with fail
      refine (HN2.out _ B11.out).mono ?_; rintro e w12 ⟨rfl, rfl⟩
      go_wp2_with fail
      refine ((HQ2.out _ B11.out).mono (fun _ _ h => h.len)).mono ?_; rintro e w12 ⟨a12, c12, rfl, g12⟩
      have B12 := Lib.hid (B11.out.below g12); clear g12
      go_wp2_with fail
      go_ret
      exact ⟨rfl, B12.out.bel⟩
end Go.Proofs.Ytealfgeeigffbaa
