/-
  readList, of stages and of windows. Written by tools/l09_readlist.py.
  readCertificate.
-/
import Derived.Test.YtihohjgjklcnlaaDoorQBv
import Derived.Deep.LoopGhost
import Derived.Deep.RegionHeld3
namespace Go.Proofs.YtihohjgjklcnlaaDoor
open Go.RowKit Go.Shelf
attribute [local go_sem] Oper.semAt_some
def optOr {α : Type} : Option α → Except Int α
  | some x => .ok x
  | none => .error 10
theorem rl_info_S : (Tryd.prog.info? 45).map (fun i => (i.zero, i.size, i.bytes)) = some (some (.agg #[.int .i64 0, .int .i64 0, .int .i64 0, .int .i64 0, .int .i64 0, .int .i64 0]), 6, 48) := by kernel_rfl
theorem rl_info_W : (Tryd.prog.info? 49).map (fun i => (i.zero, i.size, i.bytes)) = some (some (.agg #[.int .i64 0, .int .i64 0, .int .i64 0]), 3, 24) := by kernel_rfl
theorem elemS (arr : List Value) : ∀ ns : List Int, ns.length = 6 → arr.length = 6 → Obj.cells (elemA arr ns) 45 = stageObj (stOf ns)
  | [a, b, c, d, e, f], _, h => by
    unfold elemA
    rw [show arr.drop [a, b, c, d, e, f].length = [] from List.drop_eq_nil_of_le (by rw [h]; exact Nat.le_refl _)]
    rfl
  | [], h, _ => by cases h
  | [_], h, _ => by cases h
  | [_, _], h, _ => by cases h
  | [_, _, _], h, _ => by cases h
  | [_, _, _, _], h, _ => by cases h
  | [_, _, _, _, _], h, _ => by cases h
  | _ :: _ :: _ :: _ :: _ :: _ :: _ :: _, h, _ => by simp at h
abbrev rlWinObj (x : Pl.Win) : Obj := .cells #[.int .i64 x.f, .int .i64 x.t, .int .i64 x.lim] 49
theorem elemW (arr : List Value) : ∀ ns : List Int, ns.length = 3 → arr.length = 3 → Obj.cells (elemA arr ns) 49 = rlWinObj (wnOf ns)
  | [a, b, c], _, h => by
    unfold elemA
    rw [show arr.drop [a, b, c].length = [] from List.drop_eq_nil_of_le (by rw [h]; exact Nat.le_refl _)]
    rfl
  | [], h, _ => by cases h
  | [_], h, _ => by cases h
  | [_, _], h, _ => by cases h
  | _ :: _ :: _ :: _ :: _, h, _ => by simp at h
/-- The memory while a list is read. -/
structure RlS (b : Nat) (s : ByteArray) (v2 v3 v4 v5 v6 : Value) (w : World) (T : List Pl.Stage) (a : Int) (sa : Option Addr) (sc : Nat) (W : World) : Prop where
  ch : Ch (fun k => k = b) w W
  box : W.heap[b]? = some (rdBox s a v2 v3 v4 v5 v6)
  row : StO W w.heap.size (.slice sa T.length sc) T
theorem RlS.row4 {b : Nat} {s : ByteArray} {v2 v3 v4 v5 v6 : Value} {w : World} {T : List Pl.Stage} {a : Int} {sa : Option Addr} {sc : Nat} {wr w4 : World} (h : RlS b s v2 v3 v4 v5 v6 w T a sa sc wr) (hb : b < w.heap.size) (h4 : Ch (fun k => k = b ∨ k = wr.heap.size) wr w4) : StO w4 w.heap.size (.slice sa T.length sc) T :=
  own_ch h.row h4 (fun k hk e => by
    obtain ⟨h1, h2⟩ := h.row.lt k hk
    omega)
theorem RlS.step {b : Nat} {s : ByteArray} {v2 v3 v4 v5 v6 : Value} {w : World} {T : List Pl.Stage} {a nx : Int} {sa a' : Option Addr} {sc c' : Nat} {wr w4 w5 : World} {x : Pl.Stage} {o : Obj} (h : RlS b s v2 v3 v4 v5 v6 w T a sa sc wr) (hb : b < w.heap.size) (h4 : Ch (fun k => k = b ∨ k = wr.heap.size) wr w4)
    (hb4 : w4.heap[b]? = some (rdBox s nx v2 v3 v4 v5 v6)) (hown : w5.ownsRow w.heap.size 45 6 (.slice a' (T.length + 1) c') (T.length + 1) (T.flatMap stageCells ++ stageCells x)) (hg : (w4.alloc o).grownBy w5 (Value.slice sa T.length sc).ownBlock) : RlS b s v2 v3 v4 v5 v6 w (T ++ [x]) nx a' c' w5 := by
  have hr4 := h.row4 hb h4
  have hlt : ∀ k, (Value.slice sa T.length sc).ownBlock = some k → w.heap.size ≤ k := fun k hk => (hr4.lt k hk).1
  have hA : Ch (fun k => k = b) w w4 := h.ch.trans h4 (fun i hi e => by have := h.ch.size; rcases e with e | e <;> omega)
  refine ⟨?_, ?_, by rw [List.length_append]; exact RowO.snoc hown⟩
  · exact hA.trans ((Ch.ofBelow (S := fun k => w.heap.size ≤ k) (below_new w4 o)).trans (Ch.grown hg hlt) (fun _ _ e => e)) (fun i hi e => by omega)
  · have e1 := box_below hb4 (below_new w4 o)
    exact (hg.block _ (lt_of_block e1) (fun e => by have := hlt b e.symm; omega)).trans e1
/-- What readList leaves. -/
def RlSPost (b : Nat) (s : ByteArray) (v2 v3 v4 v5 v6 : Value) (w : World) : Except Int (List Pl.Stage × Int) → Ending → World → Prop
  | .ok x, e, w' => ∃ sa sc, e = .returned (.slice sa x.1.length sc) ∧ RlS b s v2 v3 v4 v5 v6 w x.1 x.2 sa sc w'
  | .error n, e, w' => e = stopped n ∧ Ch (fun k => k = b) w w'
set_option maxRecDepth 100000 in
set_option maxHeartbeats 2000000 in
theorem readListS_rows (b : Nat) (s : ByteArray) (a : Int) (v2 v3 v4 v5 v6 : Value) (w : World) (hb : w.heap[b]? = some (rdBox s a v2 v3 v4 v5 v6)) (hs : s.size ≤ maxLen) (lo hi a1 : Int) (n : Nat) (h100 : hi ≤ 100) (hi1 : Wa.Enc.intV s.data.toList a = ((n : Int), a1, 0)) (hc1 : lo ≤ (n : Int)) (hc2 : (n : Int) ≤ hi) (O : Option (List Pl.Stage × Int)) (hO : rdRows stOf 6 s.data.toList n a1 = O) :
    Calls Tryd.prog 80 #[.pointer (some ⟨b, 0, none⟩), .int .i64 lo, .int .i64 hi, .func (.func 73) #[] #[]] w (RlSPost b s v2 v3 v4 v5 v6 w (optOr O)) := by
  have HN := Lib.hid (number_yes b s a (n : Int) a1 w (box_cell hb 0 _ rfl) (box_cell hb 1 _ rfl) (box_fz hb 1) hs hi1)
  have HBW := Lib.hid (lt_of_block hb)
  have HSz := Lib.hid hs
  have M0 : Hid (RlS b s v2 v3 v4 v5 v6 w [] a1 none 0 (w.drew.setCell ⟨b, 1, none⟩ (.int .i64 a1))) := Lib.hid ⟨((Ch.refl _ w).drewN 1).trans (one_ch w.drew b 1 _) (fun _ _ e => e), block_set (w := w.drew) hb (o := 1) _, RowO.nil _ _ _ _ _⟩
  have HO := Lib.hid (show (rdRows stOf 6 s.data.toList (n - 0) a1).map (fun x => (([] : List Pl.Stage) ++ x.1, x.2)) = O by rw [Nat.sub_zero, hO]; cases O <;> simp)
  clear hb hs hi1 hO
  have hn : n ≤ 100 := by omega
  have c1 : decide (lo ≤ (n : Int)) = true := decide_eq_true hc1
  have c2 : decide ((n : Int) ≤ hi) = true := decide_eq_true hc2
  go_enter Tryd.func80, Tryd.ntmps80
  go_wp2_with fail
  refine HN.out.mono ?_; rintro e w1 ⟨rfl, rfl⟩
  generalize w.drew.setCell ⟨b, 1, none⟩ (.int .i64 a1) = w1 at *
  go_wp2_with fail
  refine (require_yes 90 _).mono ?_; rintro e v ⟨rfl, rfl⟩
  clear c1 c2
  go_wp2_with fail
  obtain ⟨i0, hi0, hz0, hz1, hz2⟩ := info_parts rl_info_S
  go_loopg [10, 24] n (fun g lv iv wr => ∃ (T : List Pl.Stage) (k : Nat) (ak : Int) (sa : Option Addr) (sc : Nat), k ≤ n ∧ g = n - k ∧ lv = .slice sa T.length sc ∧ iv = .int .i64 (k : Int) ∧ Hid (T.length = k ∧ (rdRows stOf 6 s.data.toList (n - k) ak).map (fun x => (T ++ x.1, x.2)) = O ∧ RlS b s v2 v3 v4 v5 v6 w T ak sa sc wr))
  case atStart => exact ⟨[], 0, a1, none, 0, by omega, by omega, rfl, rfl, Lib.hid ⟨rfl, HO.out, M0.out⟩⟩
  case round =>
    obtain ⟨T, k, ak, sa, sc, hk, rfl, rfl, rfl, HK⟩ := hrel
    rename World => wr
    clear M0 HO
    by_cases hlt : k < n
    · have i1 : (0 : Int) ≤ (k : Int) := by omega
      have i2 : (k : Int) < (n : Int) := by omega
      have i4 : ((k : Int)).toNat = k := by omega
      have hT : T.length ≤ 100 := by have := HK.out.1; omega
      go_upto_region 7 with (fail)
      have HX := Lib.hid (heap_alloc_new wr (.cells #[.int .i64 0, .int .i64 0, .int .i64 0, .int .i64 0, .int .i64 0, .int .i64 0] 45))
      have hb2 := below_new wr (.cells #[.int .i64 0, .int .i64 0, .int .i64 0, .int .i64 0, .int .i64 0, .int .i64 0] 45)
      have HB2 := Lib.hid hb2
      have BX := Lib.hid (box_below HK.out.2.2.box hb2)
      have NE := Lib.hid (show b ≠ wr.heap.size by have := HBW.out; have := HK.out.2.2.ch.size; omega)
      clear hb2
      generalize wr.alloc (.cells #[.int .i64 0, .int .i64 0, .int .i64 0, .int .i64 0, .int .i64 0, .int .i64 0] 45) = w2 at *
      obtain ⟨m, hm⟩ : ∃ m, wr.heap.size = m := ⟨_, rfl⟩
      rw [hm] at HX NE
      have HMs := Lib.hid hm
      rw [hm]
      clear hm
      go_wp2_with fail
      refine (stageNumbers_any m 0 w2).mono ?_; rintro e w3 ⟨rfl, hrow, g3⟩
      have HRow := Lib.hid hrow
      have BX3 := Lib.hid (box_below BX.out g3)
      have HX3 := Lib.hid (box_below HX.out g3)
      have C3 := Lib.hid (show Ch (fun k => k = b ∨ k = m) wr w3 from (Ch.ofBelow HB2.out).trans (Ch.ofBelow g3) (fun _ _ e => e))
      have LX := Lib.hid (lt_of_block BX.out)
      have LM := Lib.hid (lt_of_block HX.out)
      clear hrow g3 BX HX HB2
      have NR1 := Lib.hid (show w2.heap.size ≠ b by have := LX.out; omega)
      have NR2 := Lib.hid (show w2.heap.size ≠ m by have := LM.out; omega)
      generalize w2.heap.size = nr at *
      cases hN : rdN s.data.toList 6 ak with
      | none =>
        have HF := Lib.hid (fill_no b s m 0 nr 6 (SBox b m s v2 v3 v4 v5 v6 [.int .i64 0, .int .i64 0, .int .i64 0, .int .i64 0, .int .i64 0, .int .i64 0] 45 w3) (fillS_box NE.out NR1.out NR2.out rfl HRow.out) HSz.out (by decide) ak w3 ⟨Ch.refl _ _, BX3.out, HX3.out⟩ hN)
        have HOn := Lib.hid (show O = none by
          rw [← HK.out.2.1, show n - k = (n - k - 1) + 1 by omega]
          unfold rdRows
          rw [hN]; rfl)
        clear hN
        go_wp2_with fail
        refine HF.out.mono ?_; rintro e w4 ⟨rfl, ns, aa, wq, ⟨hc, -, -⟩, rfl⟩
        have FIN := Lib.hid (show Ch (fun k => k = b) w wq.drew from (HK.out.2.2.ch.trans (C3.out.trans hc (fun _ _ e => e)) (fun i hi e => by
          have h1 := HMs.out; have h2 := HK.out.2.2.ch.size; rcases e with e | e
          · exact e
          · omega)).drewN 1)
        clear hc HF
        go_wp2_with fail
        refine ⟨rfl, ?_⟩
        rw [HOn.out]
        exact ⟨rfl, FIN.out⟩
      | some y =>
        obtain ⟨ns, nx⟩ := y
        have HF := Lib.hid (fill_yes b s m 0 nr 6 (SBox b m s v2 v3 v4 v5 v6 [.int .i64 0, .int .i64 0, .int .i64 0, .int .i64 0, .int .i64 0, .int .i64 0] 45 w3) (fillS_box NE.out NR1.out NR2.out rfl HRow.out) HSz.out (by decide) ak w3 ⟨Ch.refl _ _, BX3.out, HX3.out⟩ ns nx hN)
        have HO2 := Lib.hid (show (rdRows stOf 6 s.data.toList (n - (k + 1)) nx).map (fun x => ((T ++ [stOf ns]) ++ x.1, x.2)) = O by
          rw [← HK.out.2.1, show n - k = (n - (k + 1)) + 1 by omega]
          conv => rhs; unfold rdRows
          rw [hN, Option.bind_some, Option.map_map]
          congr 1
          funext x
          simp)
        have HNs := Lib.hid (rdN_len hN)
        clear hN
        go_wp2_with fail
        refine HF.out.mono ?_; rintro e w4 ⟨rfl, hc, hb4, hx4⟩
        rw [elemS _ ns HNs.out rfl] at hx4
        have C4 := Lib.hid (show Ch (fun k => k = b ∨ k = wr.heap.size) wr w4 from C3.out.trans hc (fun _ _ e => e) |>.mono (fun i e => by rw [HMs.out]; exact e))
        have B4 := Lib.hid hb4
        generalize stOf ns = x at *
        have x0 := hx4
        have s0 := box_cell x0 0 (.int .i64 x.mn) rfl
        have s1 := box_cell x0 1 (.int .i64 x.mx) rfl
        have s2 := box_cell x0 2 (.int .i64 x.m.tool) rfl
        have s3 := box_cell x0 3 (.int .i64 x.m.start) rfl
        have s4 := box_cell x0 4 (.int .i64 x.s.tool) rfl
        have s5 := box_cell x0 5 (.int .i64 x.s.start) rfl
        clear hx4 x0 hc hb4 HF C3 BX3 HX3
        have HOwn := Lib.hid (show (w4.alloc (.cells #[.int .i64 x.mn, .int .i64 x.mx, .int .i64 x.m.tool, .int .i64 x.m.start, .int .i64 x.s.tool, .int .i64 x.s.start] 45)).ownsRow w.heap.size 45 6 (.slice sa T.length sc) T.length (T.flatMap stageCells) from own_below (HK.out.2.2.row4 HBW.out C4.out) (below_new _ _))
        have HNW := Lib.hid (World.news_of_block (w := w4.alloc (.cells #[.int .i64 x.mn, .int .i64 x.mx, .int .i64 x.m.tool, .int .i64 x.m.start, .int .i64 x.s.tool, .int .i64 x.s.start] 45)) (B := w4.heap.size) (cs := #[.int .i64 x.mn, .int .i64 x.mx, .int .i64 x.m.tool, .int .i64 x.m.start, .int .i64 x.s.tool, .int .i64 x.s.start]) (t := 45) (fr := (0, 0)) (heap_alloc_new w4 _))
        have hsw : w.heap.size ≤ w4.heap.size := Nat.le_trans HK.out.2.2.ch.size C4.out.size
        go_wp2_with (at_builtin; refine wpList_append_own _ rfl _ _ 25 rfl w.heap.size 45 i0 _ 6 48 Tryd.underlying25 hi0 hz0 hz1 hz2 rfl (by decide) _ _ _ rfl HOwn.out ⟨w4.heap.size, 0, none⟩ 1 1 [.int .i64 x.mn, .int .i64 x.mx, .int .i64 x.m.tool, .int .i64 x.m.start, .int .i64 x.s.tool, .int .i64 x.s.start] rfl rfl HNW.out ?c2 ?c3 ?c4 ?c5 ?_)
        case c2 => simp [Value.oneCell']
        case c3 => unfold maxLen; omega
        case c4 => omega
        case c5 => first | omega | (rw [World.size_alloc]; omega)
        intro v' w5 hown' hgrow _
        obtain ⟨a', c', rfl, -⟩ := own_slice hown'
        have ST := Lib.hid (HK.out.2.2.step HBW.out C4.out B4.out hown' hgrow)
        clear hown' hgrow HOwn HNW
        go_wp2_with fail
        go_roundg (n - (k + 1))
        case rel => exact ⟨T ++ [x], k + 1, nx, a', c', by omega, rfl, by rw [List.length_append]; rfl, by go_num, Lib.hid ⟨by rw [List.length_append, HK.out.1]; rfl, HO2.out, ST.out⟩⟩
        case measure => omega
    · have i5 : ¬ (k : Int) < (n : Int) := by omega
      have HOs := Lib.hid (show O = some (T, ak) by
        rw [← HK.out.2.1, show n - k = 0 by omega]
        unfold rdRows
        simp)
      go_wp2_with fail
      refine bodyPost_ret (v := .slice sa T.length sc) (by simp [results, Tryd.results80, go_sem]) rfl ?_
      rw [HOs.out]
      exact ⟨sa, sc, rfl, HK.out.2.2⟩
set_option maxRecDepth 100000 in
set_option maxHeartbeats 1000000 in
theorem readListS_any (b : Nat) (s : ByteArray) (a : Int) (v2 v3 v4 v5 v6 : Value) (w : World) (hb : w.heap[b]? = some (rdBox s a v2 v3 v4 v5 v6)) (hs : s.size ≤ maxLen) (lo hi : Int) (h0 : 0 ≤ lo) (h100 : hi ≤ 100) :
    Calls Tryd.prog 80 #[.pointer (some ⟨b, 0, none⟩), .int .i64 lo, .int .i64 hi, .func (.func 73) #[] #[]] w (RlSPost b s v2 v3 v4 v5 v6 w (rdList stOf 6 lo hi s.data.toList a)) := by
  rcases hI : Wa.Enc.intV s.data.toList a with ⟨c, a1, er⟩
  by_cases he : er = 0
  · subst he
    by_cases hc : lo ≤ c ∧ c ≤ hi
    · obtain ⟨n, rfl⟩ := Int.eq_ofNat_of_zero_le (show 0 ≤ c by omega)
      have := readListS_rows b s a v2 v3 v4 v5 v6 w hb hs lo hi a1 n h100 hI hc.1 hc.2 _ rfl
      have e : rdList stOf 6 lo hi s.data.toList a = optOr (rdRows stOf 6 s.data.toList n a1) := by
        unfold rdList
        rw [hI]
        simp only
        rw [if_neg (by simp), if_pos hc, Int.toNat_natCast]
        cases rdRows stOf 6 s.data.toList n a1 <;> rfl
      rw [e]; exact this
    · have HN := Lib.hid (number_yes b s a c a1 w (box_cell hb 0 _ rfl) (box_cell hb 1 _ rfl) (box_fz hb 1) hs hI)
      have e : rdList stOf 6 lo hi s.data.toList a = .error 90 := by
        unfold rdList
        rw [hI]
        simp only
        rw [if_neg (by simp), if_neg hc]
      have FIN := Lib.hid (show Ch (fun k => k = b) w (w.drew.setCell ⟨b, 1, none⟩ (.int .i64 a1)) from ((Ch.refl _ w).drewN 1).trans (one_ch w.drew b 1 _) (fun _ _ e => e))
      rw [e]
      clear hI hb e hs
      go_enter Tryd.func80, Tryd.ntmps80
      go_wp2_with fail
      refine HN.out.mono ?_; rintro e w1 ⟨rfl, rfl⟩
      generalize w.drew.setCell ⟨b, 1, none⟩ (.int .i64 a1) = w1 at *
      by_cases h1 : lo ≤ c
      · have d1 : decide (lo ≤ c) = true := decide_eq_true h1
        have h2 : ¬ c ≤ hi := fun h => hc ⟨h1, h⟩
        have d2 : decide (c ≤ hi) = false := decide_eq_false h2
        clear hc
        go_wp2_with fail
        refine (require_no 90 _).mono ?_; rintro e w1 ⟨rfl, rfl⟩
        go_wp2_with fail
        exact ⟨rfl, rfl, FIN.out⟩
      · have d1 : decide (lo ≤ c) = false := decide_eq_false h1
        clear hc
        go_wp2_with fail
        refine (require_no 90 _).mono ?_; rintro e w1 ⟨rfl, rfl⟩
        go_wp2_with fail
        exact ⟨rfl, rfl, FIN.out⟩
  · have HN := Lib.hid (number_no b s a c a1 er w (box_cell hb 0 _ rfl) (box_cell hb 1 _ rfl) hs hI he)
    have e : rdList stOf 6 lo hi s.data.toList a = .error 10 := by
      unfold rdList
      rw [hI]
      simp only
      rw [if_pos he]
    rw [e]
    have FIN := Lib.hid (show Ch (fun k => k = b) w w.drew from (Ch.refl _ w).drewN 1)
    clear hI hb e hs
    go_enter Tryd.func80, Tryd.ntmps80
    go_wp2_with fail
    refine HN.out.mono ?_; rintro e w1 ⟨rfl, rfl⟩
    go_wp2_with fail
    exact ⟨rfl, rfl, FIN.out⟩
/-- The memory while a list is read. -/
structure RlW (b : Nat) (s : ByteArray) (v2 v3 v4 v5 v6 : Value) (w : World) (T : List Pl.Win) (a : Int) (sa : Option Addr) (sc : Nat) (W : World) : Prop where
  ch : Ch (fun k => k = b) w W
  box : W.heap[b]? = some (rdBox s a v2 v3 v4 v5 v6)
  row : WnO W w.heap.size (.slice sa T.length sc) T
theorem RlW.row4 {b : Nat} {s : ByteArray} {v2 v3 v4 v5 v6 : Value} {w : World} {T : List Pl.Win} {a : Int} {sa : Option Addr} {sc : Nat} {wr w4 : World} (h : RlW b s v2 v3 v4 v5 v6 w T a sa sc wr) (hb : b < w.heap.size) (h4 : Ch (fun k => k = b ∨ k = wr.heap.size) wr w4) : WnO w4 w.heap.size (.slice sa T.length sc) T :=
  own_ch h.row h4 (fun k hk e => by
    obtain ⟨h1, h2⟩ := h.row.lt k hk
    omega)
theorem RlW.step {b : Nat} {s : ByteArray} {v2 v3 v4 v5 v6 : Value} {w : World} {T : List Pl.Win} {a nx : Int} {sa a' : Option Addr} {sc c' : Nat} {wr w4 w5 : World} {x : Pl.Win} {o : Obj} (h : RlW b s v2 v3 v4 v5 v6 w T a sa sc wr) (hb : b < w.heap.size) (h4 : Ch (fun k => k = b ∨ k = wr.heap.size) wr w4)
    (hb4 : w4.heap[b]? = some (rdBox s nx v2 v3 v4 v5 v6)) (hown : w5.ownsRow w.heap.size 49 3 (.slice a' (T.length + 1) c') (T.length + 1) (T.flatMap winCells ++ winCells x)) (hg : (w4.alloc o).grownBy w5 (Value.slice sa T.length sc).ownBlock) : RlW b s v2 v3 v4 v5 v6 w (T ++ [x]) nx a' c' w5 := by
  have hr4 := h.row4 hb h4
  have hlt : ∀ k, (Value.slice sa T.length sc).ownBlock = some k → w.heap.size ≤ k := fun k hk => (hr4.lt k hk).1
  have hA : Ch (fun k => k = b) w w4 := h.ch.trans h4 (fun i hi e => by have := h.ch.size; rcases e with e | e <;> omega)
  refine ⟨?_, ?_, by rw [List.length_append]; exact RowO.snoc hown⟩
  · exact hA.trans ((Ch.ofBelow (S := fun k => w.heap.size ≤ k) (below_new w4 o)).trans (Ch.grown hg hlt) (fun _ _ e => e)) (fun i hi e => by omega)
  · have e1 := box_below hb4 (below_new w4 o)
    exact (hg.block _ (lt_of_block e1) (fun e => by have := hlt b e.symm; omega)).trans e1
/-- What readList leaves. -/
def RlWPost (b : Nat) (s : ByteArray) (v2 v3 v4 v5 v6 : Value) (w : World) : Except Int (List Pl.Win × Int) → Ending → World → Prop
  | .ok x, e, w' => ∃ sa sc, e = .returned (.slice sa x.1.length sc) ∧ RlW b s v2 v3 v4 v5 v6 w x.1 x.2 sa sc w'
  | .error n, e, w' => e = stopped n ∧ Ch (fun k => k = b) w w'
set_option maxRecDepth 100000 in
set_option maxHeartbeats 2000000 in
theorem readListW_rows (b : Nat) (s : ByteArray) (a : Int) (v2 v3 v4 v5 v6 : Value) (w : World) (hb : w.heap[b]? = some (rdBox s a v2 v3 v4 v5 v6)) (hs : s.size ≤ maxLen) (lo hi a1 : Int) (n : Nat) (h100 : hi ≤ 100) (hi1 : Wa.Enc.intV s.data.toList a = ((n : Int), a1, 0)) (hc1 : lo ≤ (n : Int)) (hc2 : (n : Int) ≤ hi) (O : Option (List Pl.Win × Int)) (hO : rdRows wnOf 3 s.data.toList n a1 = O) :
    Calls Tryd.prog 81 #[.pointer (some ⟨b, 0, none⟩), .int .i64 lo, .int .i64 hi, .func (.func 75) #[] #[]] w (RlWPost b s v2 v3 v4 v5 v6 w (optOr O)) := by
  have HN := Lib.hid (number_yes b s a (n : Int) a1 w (box_cell hb 0 _ rfl) (box_cell hb 1 _ rfl) (box_fz hb 1) hs hi1)
  have HBW := Lib.hid (lt_of_block hb)
  have HSz := Lib.hid hs
  have M0 : Hid (RlW b s v2 v3 v4 v5 v6 w [] a1 none 0 (w.drew.setCell ⟨b, 1, none⟩ (.int .i64 a1))) := Lib.hid ⟨((Ch.refl _ w).drewN 1).trans (one_ch w.drew b 1 _) (fun _ _ e => e), block_set (w := w.drew) hb (o := 1) _, RowO.nil _ _ _ _ _⟩
  have HO := Lib.hid (show (rdRows wnOf 3 s.data.toList (n - 0) a1).map (fun x => (([] : List Pl.Win) ++ x.1, x.2)) = O by rw [Nat.sub_zero, hO]; cases O <;> simp)
  clear hb hs hi1 hO
  have hn : n ≤ 100 := by omega
  have c1 : decide (lo ≤ (n : Int)) = true := decide_eq_true hc1
  have c2 : decide ((n : Int) ≤ hi) = true := decide_eq_true hc2
  go_enter Tryd.func81, Tryd.ntmps81
  go_wp2_with fail
  refine HN.out.mono ?_; rintro e w1 ⟨rfl, rfl⟩
  generalize w.drew.setCell ⟨b, 1, none⟩ (.int .i64 a1) = w1 at *
  go_wp2_with fail
  refine (require_yes 90 _).mono ?_; rintro e v ⟨rfl, rfl⟩
  clear c1 c2
  go_wp2_with fail
  obtain ⟨i0, hi0, hz0, hz1, hz2⟩ := info_parts rl_info_W
  go_loopg [10, 24] n (fun g lv iv wr => ∃ (T : List Pl.Win) (k : Nat) (ak : Int) (sa : Option Addr) (sc : Nat), k ≤ n ∧ g = n - k ∧ lv = .slice sa T.length sc ∧ iv = .int .i64 (k : Int) ∧ Hid (T.length = k ∧ (rdRows wnOf 3 s.data.toList (n - k) ak).map (fun x => (T ++ x.1, x.2)) = O ∧ RlW b s v2 v3 v4 v5 v6 w T ak sa sc wr))
  case atStart => exact ⟨[], 0, a1, none, 0, by omega, by omega, rfl, rfl, Lib.hid ⟨rfl, HO.out, M0.out⟩⟩
  case round =>
    obtain ⟨T, k, ak, sa, sc, hk, rfl, rfl, rfl, HK⟩ := hrel
    rename World => wr
    clear M0 HO
    by_cases hlt : k < n
    · have i1 : (0 : Int) ≤ (k : Int) := by omega
      have i2 : (k : Int) < (n : Int) := by omega
      have i4 : ((k : Int)).toNat = k := by omega
      have hT : T.length ≤ 100 := by have := HK.out.1; omega
      go_upto_region 7 with (fail)
      have HX := Lib.hid (heap_alloc_new wr (.cells #[.int .i64 0, .int .i64 0, .int .i64 0] 49))
      have hb2 := below_new wr (.cells #[.int .i64 0, .int .i64 0, .int .i64 0] 49)
      have HB2 := Lib.hid hb2
      have BX := Lib.hid (box_below HK.out.2.2.box hb2)
      have NE := Lib.hid (show b ≠ wr.heap.size by have := HBW.out; have := HK.out.2.2.ch.size; omega)
      clear hb2
      generalize wr.alloc (.cells #[.int .i64 0, .int .i64 0, .int .i64 0] 49) = w2 at *
      obtain ⟨m, hm⟩ : ∃ m, wr.heap.size = m := ⟨_, rfl⟩
      rw [hm] at HX NE
      have HMs := Lib.hid hm
      rw [hm]
      clear hm
      go_wp2_with fail
      refine (windowNumbers_any m 0 w2).mono ?_; rintro e w3 ⟨rfl, hrow, g3⟩
      have HRow := Lib.hid hrow
      have BX3 := Lib.hid (box_below BX.out g3)
      have HX3 := Lib.hid (box_below HX.out g3)
      have C3 := Lib.hid (show Ch (fun k => k = b ∨ k = m) wr w3 from (Ch.ofBelow HB2.out).trans (Ch.ofBelow g3) (fun _ _ e => e))
      have LX := Lib.hid (lt_of_block BX.out)
      have LM := Lib.hid (lt_of_block HX.out)
      clear hrow g3 BX HX HB2
      have NR1 := Lib.hid (show w2.heap.size ≠ b by have := LX.out; omega)
      have NR2 := Lib.hid (show w2.heap.size ≠ m by have := LM.out; omega)
      generalize w2.heap.size = nr at *
      cases hN : rdN s.data.toList 3 ak with
      | none =>
        have HF := Lib.hid (fill_no b s m 0 nr 3 (SBox b m s v2 v3 v4 v5 v6 [.int .i64 0, .int .i64 0, .int .i64 0] 49 w3) (fillS_box NE.out NR1.out NR2.out rfl HRow.out) HSz.out (by decide) ak w3 ⟨Ch.refl _ _, BX3.out, HX3.out⟩ hN)
        have HOn := Lib.hid (show O = none by
          rw [← HK.out.2.1, show n - k = (n - k - 1) + 1 by omega]
          unfold rdRows
          rw [hN]; rfl)
        clear hN
        go_wp2_with fail
        refine HF.out.mono ?_; rintro e w4 ⟨rfl, ns, aa, wq, ⟨hc, -, -⟩, rfl⟩
        have FIN := Lib.hid (show Ch (fun k => k = b) w wq.drew from (HK.out.2.2.ch.trans (C3.out.trans hc (fun _ _ e => e)) (fun i hi e => by
          have h1 := HMs.out; have h2 := HK.out.2.2.ch.size; rcases e with e | e
          · exact e
          · omega)).drewN 1)
        clear hc HF
        go_wp2_with fail
        refine ⟨rfl, ?_⟩
        rw [HOn.out]
        exact ⟨rfl, FIN.out⟩
      | some y =>
        obtain ⟨ns, nx⟩ := y
        have HF := Lib.hid (fill_yes b s m 0 nr 3 (SBox b m s v2 v3 v4 v5 v6 [.int .i64 0, .int .i64 0, .int .i64 0] 49 w3) (fillS_box NE.out NR1.out NR2.out rfl HRow.out) HSz.out (by decide) ak w3 ⟨Ch.refl _ _, BX3.out, HX3.out⟩ ns nx hN)
        have HO2 := Lib.hid (show (rdRows wnOf 3 s.data.toList (n - (k + 1)) nx).map (fun x => ((T ++ [wnOf ns]) ++ x.1, x.2)) = O by
          rw [← HK.out.2.1, show n - k = (n - (k + 1)) + 1 by omega]
          conv => rhs; unfold rdRows
          rw [hN, Option.bind_some, Option.map_map]
          congr 1
          funext x
          simp)
        have HNs := Lib.hid (rdN_len hN)
        clear hN
        go_wp2_with fail
        refine HF.out.mono ?_; rintro e w4 ⟨rfl, hc, hb4, hx4⟩
        rw [elemW _ ns HNs.out rfl] at hx4
        have C4 := Lib.hid (show Ch (fun k => k = b ∨ k = wr.heap.size) wr w4 from C3.out.trans hc (fun _ _ e => e) |>.mono (fun i e => by rw [HMs.out]; exact e))
        have B4 := Lib.hid hb4
        generalize wnOf ns = x at *
        have x0 := hx4
        have s0 := box_cell x0 0 (.int .i64 x.f) rfl
        have s1 := box_cell x0 1 (.int .i64 x.t) rfl
        have s2 := box_cell x0 2 (.int .i64 x.lim) rfl
        clear hx4 x0 hc hb4 HF C3 BX3 HX3
        have HOwn := Lib.hid (show (w4.alloc (.cells #[.int .i64 x.f, .int .i64 x.t, .int .i64 x.lim] 49)).ownsRow w.heap.size 49 3 (.slice sa T.length sc) T.length (T.flatMap winCells) from own_below (HK.out.2.2.row4 HBW.out C4.out) (below_new _ _))
        have HNW := Lib.hid (World.news_of_block (w := w4.alloc (.cells #[.int .i64 x.f, .int .i64 x.t, .int .i64 x.lim] 49)) (B := w4.heap.size) (cs := #[.int .i64 x.f, .int .i64 x.t, .int .i64 x.lim]) (t := 49) (fr := (0, 0)) (heap_alloc_new w4 _))
        have hsw : w.heap.size ≤ w4.heap.size := Nat.le_trans HK.out.2.2.ch.size C4.out.size
        go_wp2_with (at_builtin; refine wpList_append_own _ rfl _ _ 26 rfl w.heap.size 49 i0 _ 3 24 Tryd.underlying26 hi0 hz0 hz1 hz2 rfl (by decide) _ _ _ rfl HOwn.out ⟨w4.heap.size, 0, none⟩ 1 1 [.int .i64 x.f, .int .i64 x.t, .int .i64 x.lim] rfl rfl HNW.out ?c2 ?c3 ?c4 ?c5 ?_)
        case c2 => simp [Value.oneCell']
        case c3 => unfold maxLen; omega
        case c4 => omega
        case c5 => first | omega | (rw [World.size_alloc]; omega)
        intro v' w5 hown' hgrow _
        obtain ⟨a', c', rfl, -⟩ := own_slice hown'
        have ST := Lib.hid (HK.out.2.2.step HBW.out C4.out B4.out hown' hgrow)
        clear hown' hgrow HOwn HNW
        go_wp2_with fail
        go_roundg (n - (k + 1))
        case rel => exact ⟨T ++ [x], k + 1, nx, a', c', by omega, rfl, by rw [List.length_append]; rfl, by go_num, Lib.hid ⟨by rw [List.length_append, HK.out.1]; rfl, HO2.out, ST.out⟩⟩
        case measure => omega
    · have i5 : ¬ (k : Int) < (n : Int) := by omega
      have HOs := Lib.hid (show O = some (T, ak) by
        rw [← HK.out.2.1, show n - k = 0 by omega]
        unfold rdRows
        simp)
      go_wp2_with fail
      refine bodyPost_ret (v := .slice sa T.length sc) (by simp [results, Tryd.results81, go_sem]) rfl ?_
      rw [HOs.out]
      exact ⟨sa, sc, rfl, HK.out.2.2⟩
set_option maxRecDepth 100000 in
set_option maxHeartbeats 1000000 in
theorem readListW_any (b : Nat) (s : ByteArray) (a : Int) (v2 v3 v4 v5 v6 : Value) (w : World) (hb : w.heap[b]? = some (rdBox s a v2 v3 v4 v5 v6)) (hs : s.size ≤ maxLen) (lo hi : Int) (h0 : 0 ≤ lo) (h100 : hi ≤ 100) :
    Calls Tryd.prog 81 #[.pointer (some ⟨b, 0, none⟩), .int .i64 lo, .int .i64 hi, .func (.func 75) #[] #[]] w (RlWPost b s v2 v3 v4 v5 v6 w (rdList wnOf 3 lo hi s.data.toList a)) := by
  rcases hI : Wa.Enc.intV s.data.toList a with ⟨c, a1, er⟩
  by_cases he : er = 0
  · subst he
    by_cases hc : lo ≤ c ∧ c ≤ hi
    · obtain ⟨n, rfl⟩ := Int.eq_ofNat_of_zero_le (show 0 ≤ c by omega)
      have := readListW_rows b s a v2 v3 v4 v5 v6 w hb hs lo hi a1 n h100 hI hc.1 hc.2 _ rfl
      have e : rdList wnOf 3 lo hi s.data.toList a = optOr (rdRows wnOf 3 s.data.toList n a1) := by
        unfold rdList
        rw [hI]
        simp only
        rw [if_neg (by simp), if_pos hc, Int.toNat_natCast]
        cases rdRows wnOf 3 s.data.toList n a1 <;> rfl
      rw [e]; exact this
    · have HN := Lib.hid (number_yes b s a c a1 w (box_cell hb 0 _ rfl) (box_cell hb 1 _ rfl) (box_fz hb 1) hs hI)
      have e : rdList wnOf 3 lo hi s.data.toList a = .error 90 := by
        unfold rdList
        rw [hI]
        simp only
        rw [if_neg (by simp), if_neg hc]
      have FIN := Lib.hid (show Ch (fun k => k = b) w (w.drew.setCell ⟨b, 1, none⟩ (.int .i64 a1)) from ((Ch.refl _ w).drewN 1).trans (one_ch w.drew b 1 _) (fun _ _ e => e))
      rw [e]
      clear hI hb e hs
      go_enter Tryd.func81, Tryd.ntmps81
      go_wp2_with fail
      refine HN.out.mono ?_; rintro e w1 ⟨rfl, rfl⟩
      generalize w.drew.setCell ⟨b, 1, none⟩ (.int .i64 a1) = w1 at *
      by_cases h1 : lo ≤ c
      · have d1 : decide (lo ≤ c) = true := decide_eq_true h1
        have h2 : ¬ c ≤ hi := fun h => hc ⟨h1, h⟩
        have d2 : decide (c ≤ hi) = false := decide_eq_false h2
        clear hc
        go_wp2_with fail
        refine (require_no 90 _).mono ?_; rintro e w1 ⟨rfl, rfl⟩
        go_wp2_with fail
        exact ⟨rfl, rfl, FIN.out⟩
      · have d1 : decide (lo ≤ c) = false := decide_eq_false h1
        clear hc
        go_wp2_with fail
        refine (require_no 90 _).mono ?_; rintro e w1 ⟨rfl, rfl⟩
        go_wp2_with fail
        exact ⟨rfl, rfl, FIN.out⟩
  · have HN := Lib.hid (number_no b s a c a1 er w (box_cell hb 0 _ rfl) (box_cell hb 1 _ rfl) hs hI he)
    have e : rdList wnOf 3 lo hi s.data.toList a = .error 10 := by
      unfold rdList
      rw [hI]
      simp only
      rw [if_pos he]
    rw [e]
    have FIN := Lib.hid (show Ch (fun k => k = b) w w.drew from (Ch.refl _ w).drewN 1)
    clear hI hb e hs
    go_enter Tryd.func81, Tryd.ntmps81
    go_wp2_with fail
    refine HN.out.mono ?_; rintro e w1 ⟨rfl, rfl⟩
    go_wp2_with fail
    exact ⟨rfl, rfl, FIN.out⟩
end Go.Proofs.YtihohjgjklcnlaaDoor

namespace Go.Proofs.YtihohjgjklcnlaaDoor
open Go.RowKit Go.Shelf
attribute [local go_sem] Oper.semAt_some
abbrev bdV (ns : List Int) (j : Nat) : Value := .int .i64 (ns.getD j 0)
abbrev bdBox (s : ByteArray) (a : Int) (ns : List Int) : Obj := rdBox s a (bdV ns 0) (bdV ns 1) (bdV ns 2) (.slice none 0 0) (.slice none 0 0)
/-- The reader's box while the numbers in front are read. -/
def SBd (b : Nat) (s : ByteArray) (w5 : World) (ns : List Int) (a : Int) (W : World) : Prop := Ch (fun k => k = b) w5 W ∧ W.heap[b]? = some (bdBox s a ns)
theorem bdBox_put (s : ByteArray) (a n nx : Int) : ∀ ns : List Int, ns.length < 3 → ((#[.string s, .int .i64 a, bdV ns 0, bdV ns 1, bdV ns 2, .slice none 0 0, .slice none 0 0] : Array Value).setIfInBounds 1 (.int .i64 nx)).setIfInBounds (2 + ns.length) (.int .i64 n) = #[.string s, .int .i64 nx, bdV (ns ++ [n]) 0, bdV (ns ++ [n]) 1, bdV (ns ++ [n]) 2, .slice none 0 0, .slice none 0 0]
  | [], _ => rfl
  | [_], _ => rfl
  | [_, _], _ => rfl
  | _ :: _ :: _ :: _, h => by simp at h; omega
theorem fillS_bd {b nr : Nat} {s : ByteArray} {w5 : World} (hrb : nr ≠ b) (hrow : w5.heap[nr]? = some (.cells ((List.range 3).map fun i => Value.pointer (some ⟨b, 2 + i, none⟩)).toArray 138)) : FillS b s b 2 nr 3 (SBd b s w5) where
  c0 := fun ns a W ⟨_, h⟩ => box_cell h 0 _ rfl
  c1 := fun ns a W ⟨_, h⟩ => box_cell h 1 _ rfl
  z1 := fun ns a W ⟨_, h⟩ => box_fz h 1
  row := fun ns a W ⟨hc, _⟩ j hj => by
    have h := (hc.block nr (lt_of_block hrow) (by omega)).trans hrow
    exact box_cell h j _ (by simp [hj])
  place := fun ns a W nx ⟨_, h⟩ j hj => by
    have h1 : (W.drew.setCell ⟨b, 1, none⟩ (.int .i64 nx)).heap[b]? = some (bdBox s nx ns) := block_set (w := W.drew) h (o := 1) _
    have : j = 0 ∨ j = 1 ∨ j = 2 := by omega
    rcases this with rfl | rfl | rfl
    · exact ⟨⟨_, box_cell h1 2 _ rfl⟩, box_fz h1 _⟩
    · exact ⟨⟨_, box_cell h1 3 _ rfl⟩, box_fz h1 _⟩
    · exact ⟨⟨_, box_cell h1 4 _ rfl⟩, box_fz h1 _⟩
  put := fun ns a W n nx ⟨hc, h⟩ hlt => by
    have h1 := block_set (w := W.drew) h (o := 1) (.int .i64 nx)
    have h2 := block_set h1 (o := 2 + ns.length) (.int .i64 n)
    rw [bdBox_put s a n nx ns hlt] at h2
    exact ⟨((hc.drewN 1).trans (one_ch W.drew b 1 _) (fun _ _ e => e)).trans (one_ch _ b (2 + ns.length) _) (fun _ _ e => e), h2⟩
theorem tab_ne {b : Nat} {s : ByteArray} {w : World} (ht : Wb.Tab w) (h : w.cell? ⟨b, 0, none⟩ = some (.string s)) : b ≠ 0 := by
  rintro rfl
  have := ht.2 0 (by omega)
  rw [h] at this
  injection this with this; cases this
theorem tab_ch {b : Nat} {w w' : World} (ht : Wb.Tab w) (hb : b ≠ 0) (h : Ch (fun k => k = b) w w') : Wb.Tab w' :=
  ⟨Nat.lt_of_lt_of_le ht.1 h.size, fun i hi => (World.cell?_of_block (a := ⟨0, i, none⟩) (h.block 0 ht.1 (fun e => hb e.symm))).trans (ht.2 i hi)⟩
theorem rc_toList {a b : ByteArray} (h : a.toList = b.toList) : a = b := by
  rw [Lib.toList_data, Lib.toList_data] at h
  exact ByteArray.ext (Array.toList_inj.1 h)
/-- What the reading of a certificate leaves in the reader's box. -/
def CertPost (s : ByteArray) (b : Nat) (w : World) : Except Int Pl.Plan → Ending → World → Prop
  | .ok p, e, w' => e = .returned (.tuple #[]) ∧ Ch (fun k => k = b) w w' ∧ ∃ sa sc wa wc a, w'.heap[b]? = some (rdBox s a (.int .i64 p.entry) (.int .i64 p.mmin) (.int .i64 p.mmax) (.slice sa p.st.length sc) (.slice wa p.wn.length wc)) ∧ StO w' w.heap.size (.slice sa p.st.length sc) p.st ∧ WnO w' w.heap.size (.slice wa p.wn.length wc) p.wn
  | .error n, e, w' => e = stopped n ∧ Ch (fun k => k = b) w w'
theorem own_ne {B b : Nat} {t : TypeId} {k n : Nat} {v : Value} {xs : List Value} {w : World} (h : w.ownsRow B t k v n xs) (hb : b < B) : ∀ i, v.ownBlock = some i → i ≠ b := fun i hi e => by have := (h.lt i hi).1; omega
set_option maxRecDepth 100000 in
set_option maxHeartbeats 4000000 in
theorem readCert_any (b : Nat) (s : ByteArray) (w : World) (hb : w.heap[b]? = some (bdBox s 0 [])) (hs : s.size ≤ 2000) (ht : Wb.Tab w) :
    Calls Tryd.prog 48 #[.pointer (some ⟨b, 0, none⟩)] w (CertPost s b w (openR s)) := by
  have HNE := Lib.hid (tab_ne ht (box_cell hb 0 _ rfl))
  have HT := Lib.hid ht
  have HBW := Lib.hid (lt_of_block hb)
  have HSz := Lib.hid hs
  have HSm := Lib.hid (show s.size ≤ maxLen by unfold maxLen; omega)
  have HB := Lib.hid hb
  clear ht hb hs
  go_enter Tryd.func48, Tryd.ntmps48
  go_wp2_with fail
  refine (bounds_any b 2 w).mono ?_; rintro e w1 ⟨rfl, hrow, g1⟩
  have HRow := Lib.hid hrow
  have B1 := Lib.hid (box_below HB.out g1)
  have C1 := Lib.hid (Ch.ofBelow (S := fun k => k = b) g1)
  have NR := Lib.hid (show w.heap.size ≠ b by have := HBW.out; omega)
  clear hrow g1 HB
  obtain ⟨nr, hnr⟩ : ∃ nr, w.heap.size = nr := ⟨_, rfl⟩
  cases hN : rdN s.data.toList 3 0 with
  | none =>
    have HE := Lib.hid (show openR s = .error 10 by unfold openR rdPlan; rw [hN])
    have HF := Lib.hid (fill_no b s b 2 w.heap.size 3 (SBd b s w1) (fillS_bd NR.out HRow.out) HSm.out (by decide) 0 w1 ⟨Ch.refl _ _, B1.out⟩ hN)
    clear hN hnr
    go_wp2_with fail
    refine HF.out.mono ?_; rintro e w2 ⟨rfl, ns, aa, wq, ⟨hc, -⟩, rfl⟩
    have FIN := Lib.hid ((C1.out.trans hc (fun _ _ e => e)).drewN 1)
    clear hc HF
    go_wp2_with fail
    refine ⟨rfl, ?_⟩
    rw [HE.out]
    exact ⟨rfl, FIN.out⟩
  | some y =>
  obtain ⟨ns, a0⟩ := y
  have HF := Lib.hid (fill_yes b s b 2 w.heap.size 3 (SBd b s w1) (fillS_bd NR.out HRow.out) HSm.out (by decide) 0 w1 ⟨Ch.refl _ _, B1.out⟩ ns a0 hN)
  have HN := Lib.hid hN
  clear hN hnr
  go_wp2_with fail
  refine HF.out.mono ?_; rintro e w2 ⟨rfl, hc, hb2⟩
  have C2 := Lib.hid (C1.out.trans hc (fun _ _ e => e))
  have B2 := Lib.hid hb2
  have RS := Lib.hid (readListS_any b s a0 (bdV ns 0) (bdV ns 1) (bdV ns 2) (.slice none 0 0) (.slice none 0 0) w2 hb2 HSm.out 1 8 (by decide) (by decide))
  clear hc hb2 HF C1 B1 HRow NR
  cases hS : rdList stOf 6 1 8 s.data.toList a0 with
  | error n =>
    have HE := Lib.hid (show openR s = .error n by unfold openR rdPlan; rw [HN.out]; simp only; rw [hS])
    rw [hS] at RS
    clear hS
    go_wp2_with fail
    refine RS.out.mono ?_; rintro e w3 ⟨rfl, hc⟩
    have FIN := Lib.hid (C2.out.trans hc (fun _ _ e => e))
    clear hc RS
    go_wp2_with fail
    refine ⟨rfl, ?_⟩
    rw [HE.out]
    exact ⟨rfl, FIN.out⟩
  | ok y =>
  obtain ⟨st, a1⟩ := y
  rw [hS] at RS
  have HSt := Lib.hid hS
  clear hS
  go_wp2_with fail
  refine RS.out.mono ?_; rintro e w3 ⟨sa, sc, rfl, h3⟩
  simp only at h3
  have B3 := Lib.hid h3.box
  have C3 := Lib.hid (C2.out.trans h3.ch (fun _ _ e => e))
  have S3 := Lib.hid (h3.row.mono C2.out.size)
  clear h3 RS
  have k5 := box_cell B3.out 5 (.slice none 0 0) rfl
  have z5 := box_fz B3.out 5
  have l5 := lt_of_block B3.out
  have B4 := Lib.hid (show (w3.setCell ⟨b, 5, none⟩ (.slice sa st.length sc)).heap[b]? = some (rdBox s a1 (bdV ns 0) (bdV ns 1) (bdV ns 2) (.slice sa st.length sc) (.slice none 0 0)) from block_set B3.out (o := 5) _)
  have O4 := one_ch w3 b 5 (.slice sa st.length sc)
  have S4 := Lib.hid (show StO (w3.setCell ⟨b, 5, none⟩ (.slice sa st.length sc)) w.heap.size (.slice sa st.length sc) st from own_ch S3.out O4 (own_ne S3.out HBW.out))
  have C4 := Lib.hid (C3.out.trans O4 (fun _ _ e => e))
  clear O4 S3 C3 C2 B2
  go_upto_region 2 with (fail)
  clear k5 z5 l5 B3
  generalize w3.setCell ⟨b, 5, none⟩ (.slice sa st.length sc) = w4 at *
  have RW := Lib.hid (readListW_any b s a1 (bdV ns 0) (bdV ns 1) (bdV ns 2) (.slice sa st.length sc) (.slice none 0 0) w4 B4.out HSm.out 0 20 (by decide) (by decide))
  cases hW : rdList wnOf 3 0 20 s.data.toList a1 with
  | error n =>
    have HE := Lib.hid (show openR s = .error n by unfold openR rdPlan; rw [HN.out]; simp only; rw [HSt.out]; simp only; rw [hW])
    rw [hW] at RW
    clear hW
    go_wp2_with fail
    refine RW.out.mono ?_; rintro e w5 ⟨rfl, hc⟩
    have FIN := Lib.hid (C4.out.trans hc (fun _ _ e => e))
    clear hc RW
    go_wp2_with fail
    refine ⟨rfl, ?_⟩
    rw [HE.out]
    exact ⟨rfl, FIN.out⟩
  | ok y =>
  obtain ⟨wn, a2⟩ := y
  rw [hW] at RW
  have HP := Lib.hid (show rdPlan s.data.toList = .ok (plOf ns st wn, a2) by unfold rdPlan; rw [HN.out]; simp only; rw [HSt.out]; simp only; rw [hW])
  clear hW HN HSt
  go_wp2_with fail
  refine RW.out.mono ?_; rintro e w5 ⟨wa, wc, rfl, h5⟩
  simp only at h5
  have B5 := Lib.hid h5.box
  have S5 := Lib.hid (own_ch S4.out h5.ch (own_ne S4.out HBW.out))
  have C5 := Lib.hid (C4.out.trans h5.ch (fun _ _ e => e))
  have W5 := Lib.hid (h5.row.mono C4.out.size)
  clear h5 RW S4 C4 B4
  have k6 := box_cell B5.out 6 (.slice none 0 0) rfl
  have z6 := box_fz B5.out 6
  have l6 := lt_of_block B5.out
  have B6 := Lib.hid (show (w5.setCell ⟨b, 6, none⟩ (.slice wa wn.length wc)).heap[b]? = some (rdBox s a2 (bdV ns 0) (bdV ns 1) (bdV ns 2) (.slice sa st.length sc) (.slice wa wn.length wc)) from block_set B5.out (o := 6) _)
  have O6 := one_ch w5 b 6 (.slice wa wn.length wc)
  have S6 := Lib.hid (show StO (w5.setCell ⟨b, 6, none⟩ (.slice wa wn.length wc)) w.heap.size (.slice sa st.length sc) st from own_ch S5.out O6 (own_ne S5.out HBW.out))
  have W6 := Lib.hid (show WnO (w5.setCell ⟨b, 6, none⟩ (.slice wa wn.length wc)) w.heap.size (.slice wa wn.length wc) wn from own_ch W5.out O6 (own_ne W5.out HBW.out))
  have C6 := Lib.hid (C5.out.trans O6 (fun _ _ e => e))
  clear O6 S5 W5 C5
  go_upto_region 3 with (fail)
  clear k6 z6 l6 B5
  generalize w5.setCell ⟨b, 6, none⟩ (.slice wa wn.length wc) = w6 at *
  obtain ⟨-, -, q0, q1, -⟩ := rdPlan_ok HP.out
  obtain ⟨a, rfl⟩ := Int.eq_ofNat_of_zero_le q0
  have q2 : a ≤ s.size := by have : s.data.toList.length = s.size := by simp
                             omega
  have q3 : (0 : Int) ≤ (a : Int) := by omega
  have q4 : (a : Int) ≤ (s.size : Int) := by omega
  have q5 : ((a : Int)).toNat = a := by omega
  have HX := Lib.hid HSz.out
  have t0 := box_cell B6.out 0 (.string s) rfl
  have t1 := box_cell B6.out 1 (.int .i64 (a : Int)) rfl
  clear q0 q1
  have hS6 := S6.out; have hW6 := W6.out
  obtain ⟨E1, hE1⟩ : ∃ E, s.extract 0 a = E := ⟨_, rfl⟩
  obtain ⟨E2, hE2⟩ : ∃ E, s.extract a s.size = E := ⟨_, rfl⟩
  have L1 := Lib.hid (show bs (s.data.toList.take a) = E1 by
    rw [← bs_of E1, ← hE1, Lib.extract_data]; simp)
  have L2 := Lib.hid (show bs (s.data.toList.drop a) = E2 by
    rw [← bs_of E2, ← hE2, Lib.extract_data, List.take_of_length_le (by simp)])
  have LS := Lib.hid (show E1.size ≤ 2000 by rw [← hE1, ByteArray.size_extract]; have := HSz.out; omega)
  have HO := Lib.hid (show openR s = openT E1 E2 (plOf ns st wn) by
    unfold openR
    rw [HP.out]
    show openT (bs (s.data.toList.take ((a : Int)).toNat)) (bs (s.data.toList.drop ((a : Int)).toNat)) _ = _
    rw [Int.toNat_natCast, L1.out, L2.out])
  go_cut [2, 3] (fun t2 t3 wx => t2 = .string E1 ∧ t3 = .string E2 ∧ ∃ n, wx = w6.drewN n)
  case first =>
    subst hE1; subst hE2
    go_quiet (fail)
    go_wp2_with fail
    go_meet
    exact ⟨rfl, rfl, _, rfl⟩
  case rest =>
  obtain ⟨rfl, rfl, nq, rfl⟩ := hcut
  have HD := Lib.hid (below_drewN (Below.refl w6.heap.size w6) nq)
  have B7 := Lib.hid (box_below B6.out HD.out)
  have S7 := Lib.hid (RowO.below hS6 HD.out)
  have W7 := Lib.hid (RowO.below hW6 HD.out)
  have C7 := Lib.hid (C6.out.trans (Ch.ofBelow HD.out) (fun _ _ e => e))
  clear hS6 hW6 S6 W6 C6 B6 t0 t1 HD L1 L2 hE1 hE2 q2 q3 q4 q5
  generalize w6.drewN nq = w7 at *
  by_cases h32 : E2.size = 32
  · have n1 : ((E2.size : Int) == 32) = true := by rw [h32]; rfl
    have H32 := Lib.hid h32; clear h32
    go_wp2_with fail
    refine (require_yes 10 _).mono ?_; rintro e w7 ⟨rfl, rfl⟩
    clear n1
    have SU := Lib.hid (Wb.sum_any E1 w7 (tab_ch HT.out HNE.out C7.out) LS.out)
    obtain ⟨D, hD⟩ : ∃ D, Wb.Sha.shaS E1 = D := ⟨_, rfl⟩
    have HD := Lib.hid hD
    clear hD
    go_wp2_with fail
    refine SU.out.mono ?_; rintro e w8 ⟨rfl, g8⟩
    rw [HD.out]
    have B8 := Lib.hid (box_below B7.out g8)
    have S8 := Lib.hid (RowO.below S7.out g8)
    have W8 := Lib.hid (RowO.below W7.out g8)
    have C8 := Lib.hid (C7.out.trans (Ch.ofBelow g8) (fun _ _ e => e))
    clear g8 SU B7 S7 W7 C7
    by_cases hq : E2 = D
    · have n2 : (E2.toList == D.toList) = true := by rw [hq]; exact beq_self_eq_true _
      have HQ := Lib.hid hq; clear hq
      go_wp2_with fail
      refine (require_yes 90 _).mono ?_; rintro e w8 ⟨rfl, rfl⟩
      clear n2
      have c2 := box_cell B8.out 2 (bdV ns 0) rfl
      have c3 := box_cell B8.out 3 (bdV ns 1) rfl
      have c4 := box_cell B8.out 4 (bdV ns 2) rfl
      have c5 := box_cell B8.out 5 (.slice sa st.length sc) rfl
      have c6 := box_cell B8.out 6 (.slice wa wn.length wc) rfl
      have SF := Lib.hid (isSafe_any ⟨plOf ns st wn, sa, sc, wa, wc⟩ w8 (made_ok S8.out W8.out))
      have HO2 := Lib.hid (show openR s = if (Pl.checkR (plOf ns st wn)).2 = true then .ok (plOf ns st wn) else .error 90 by
        rw [HO.out]; unfold openT; rw [if_neg (by rw [H32.out]; simp), if_neg (by rw [HD.out, HQ.out]; simp)])
      clear HO
      cases hR : (Pl.checkR (plOf ns st wn)).2 with
      | true =>
        rw [hR] at SF HO2
        clear hR
        go_wp2_with fail
        refine SF.out.mono ?_; rintro e w9 ⟨rfl, g9⟩
        have FIN := Lib.hid (show Ch (fun k => k = b) w w9 ∧ w9.heap[b]? = some (rdBox s (a : Int) (bdV ns 0) (bdV ns 1) (bdV ns 2) (.slice sa st.length sc) (.slice wa wn.length wc)) ∧ StO w9 w.heap.size (.slice sa st.length sc) st ∧ WnO w9 w.heap.size (.slice wa wn.length wc) wn from ⟨C8.out.trans (Ch.ofBelow g9) (fun _ _ e => e), box_below B8.out g9, RowO.below S8.out g9, RowO.below W8.out g9⟩)
        clear g9 SF c2 c3 c4 c5 c6
        go_wp2_with fail
        refine (require_yes 90 _).mono ?_; rintro e v ⟨rfl, rfl⟩
        go_wp2_with fail
        refine bodyPost_ret (results_none rfl _ _ _) rfl ?_
        rw [HO2.out, if_pos trivial]
        exact ⟨rfl, FIN.out.1, sa, sc, wa, wc, (a : Int), FIN.out.2.1, FIN.out.2.2.1, FIN.out.2.2.2⟩
      | false =>
        rw [hR] at SF HO2
        clear hR
        go_wp2_with fail
        refine SF.out.mono ?_; rintro e w9 ⟨rfl, g9⟩
        have FIN := Lib.hid (C8.out.trans (Ch.ofBelow g9) (fun _ _ e => e))
        clear g9 SF c2 c3 c4 c5 c6
        go_wp2_with fail
        refine (require_no 90 _).mono ?_; rintro e v ⟨rfl, rfl⟩
        go_wp2_with fail
        refine ⟨rfl, ?_⟩
        rw [HO2.out, if_neg (by simp)]
        exact ⟨rfl, FIN.out⟩
    · have n2 : (E2.toList == D.toList) = false := beq_eq_false_iff_ne.2 (fun e => hq (rc_toList e))
      have HQ := Lib.hid hq; clear hq
      go_wp2_with fail
      refine (require_no 90 _).mono ?_; rintro e v ⟨rfl, rfl⟩
      go_wp2_with fail
      refine ⟨rfl, ?_⟩
      rw [HO.out]; unfold openT; rw [if_neg (by rw [H32.out]; simp), if_pos (by rw [HD.out]; exact HQ.out)]
      exact ⟨rfl, C8.out⟩
  · have n1 : ((E2.size : Int) == 32) = false := by rw [beq_eq_false_iff_ne]; omega
    have H32 := Lib.hid h32; clear h32
    go_wp2_with fail
    refine (require_no 10 _).mono ?_; rintro e v ⟨rfl, rfl⟩
    go_wp2_with fail
    refine ⟨rfl, ?_⟩
    rw [HO.out]; unfold openT; rw [if_pos H32.out]
    exact ⟨rfl, C7.out⟩
end Go.Proofs.YtihohjgjklcnlaaDoor
