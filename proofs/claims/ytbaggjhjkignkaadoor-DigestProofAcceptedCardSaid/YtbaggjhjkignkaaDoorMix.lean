/-
  The contract of the package's mix. Condition: the table of 64 words reads as the program's text lays it.
-/
import Derived.Test.YtbaggjhjkignkaaDoorRot
import Derived.LoopTactic
import Derived.RegionTactic
import Derived.BigRegion
import Derived.Deep.WholeRow
import Derived.Laws.CopyOwn
namespace Go.Proofs.YtbaggjhjkignkaaDoor
open Go.RowKit

/-- The table, as the program's text lays it, in block 0. -/
def Tab (w : World) : Prop := 0 < w.heap.size ∧ ∀ i, i < 64 → w.cell? ⟨0, i, none⟩ = some (.int .u32 (wv (Sha.K.getD i 0)))
theorem Tab.below {w w' : World} (h : Tab w) (hb : Below w.heap.size w w') : Tab w' :=
  ⟨Nat.lt_of_lt_of_le h.1 hb.size, fun i hi => (hb.cell (p := ⟨0, i, none⟩) h.1).trans (h.2 i hi)⟩

/-- A block of words. -/
def WordsAt (w : World) (b : Nat) (l : List Wd) : Prop := ∀ i, i < l.length → w.cell? ⟨b, i, none⟩ = some (.int .u32 (wv (l.getD i 0)))
theorem WordsAt.of_heap {w : World} {b : Nat} {l : List Wd} {t : TypeId} {fr : Nat × Nat} (h : w.heap[b]? = some (.cells (wordsV l).toArray t fr)) : WordsAt w b l := fun i hi => by
  rw [cell_of_row w b i _ t fr h]
  simpa using wordsV_at l i hi
/-- A block that is a row of words, as a whole. -/
def RowAt (w : World) (b : Nat) (t : TypeId) (l : List Wd) : Prop := w.heap[b]? = some (.cells (wordsV l).toArray t (0, 0))
theorem RowAt.set {w : World} {b : Nat} {t : TypeId} {l : List Wd} (h : RowAt w b t l) (i : Nat) (x : Wd) : RowAt (w.setCell ⟨b, i, none⟩ (.int .u32 (wv x))) b t (l.set i x) := by
  unfold RowAt
  rw [heap_setCell_same w b i _ t _ h]
  congr 2
  unfold wordsV
  rw [List.map_set, List.setIfInBounds_toArray]
theorem RowAt.other {w : World} {b c i : Nat} {t : TypeId} {l : List Wd} (h : RowAt w b t l) (v : Value) (hn : b ≠ c) : RowAt (w.setCell ⟨c, i, none⟩ v) b t l := by
  unfold RowAt
  rw [heap_setCell_other _ _ _ _ hn]; exact h
theorem WordsAt.below {w w' : World} {b n : Nat} {l : List Wd} (h : WordsAt w b l) (hb : Below n w w') (hn : b < n) : WordsAt w' b l := fun i hi => (hb.cell (p := ⟨b, i, none⟩) hn).trans (h i hi)

set_option maxRecDepth 100000 in
set_option maxHeartbeats 2000000 in
theorem mix_any (s : Sha.St) (ws : List Wd) (hl : ws.length = 64) (w : World) (ht : Tab w) :
    Calls Tryd.prog 44 #[.agg (wordsV s.list).toArray, .agg (wordsV ws).toArray] w fun e w' => e = .returned (.agg (wordsV (Sha.plus s (Sha.rounds ws s 64)).list).toArray) ∧ Below w.heap.size w w' := by
  go_enter Tryd.func44, Tryd.ntmps44
  go_wp2_with fail
  obtain ⟨W0, hW⟩ : ∃ W, W = ((w.alloc (.cells (wordsV s.list).toArray 56)).alloc (.cells (wordsV ws).toArray 64)).alloc (.cells #[.int .u32 0, .int .u32 0, .int .u32 0, .int .u32 0, .int .u32 0, .int .u32 0, .int .u32 0, .int .u32 0] 56) := ⟨_, rfl⟩
  rw [← hW]
  have hB : Below w.heap.size w W0 := by rw [hW]; exact (((Below.refl _ w).alloc (Nat.le_refl _) _).alloc (by simp) _).alloc (by simp; omega) _
  have hs : WordsAt W0 w.heap.size s.list := WordsAt.of_heap (t := 56) (fr := (0, 0)) (by rw [hW, heap_alloc_old _ _ (by simp; omega), heap_alloc_old _ _ (by simp)]; exact heap_alloc_new _ _)
  have hw : WordsAt W0 (w.heap.size + 1) ws := WordsAt.of_heap (t := 64) (fr := (0, 0)) (by rw [hW, heap_alloc_old _ _ (by simp)]; exact heap_alloc2_new _ _ _)
  have hT := ht.below hB
  have e0 := hs 0 (by show _ < 8; omega)
  have e1 := hs 1 (by show _ < 8; omega)
  have e2 := hs 2 (by show _ < 8; omega)
  have e3 := hs 3 (by show _ < 8; omega)
  have e4 := hs 4 (by show _ < 8; omega)
  have e5 := hs 5 (by show _ < 8; omega)
  have e6 := hs 6 (by show _ < 8; omega)
  have e7 := hs 7 (by show _ < 8; omega)
  simp only [Sha.St.list, List.getD_cons_zero, List.getD_cons_succ] at e0 e1 e2 e3 e4 e5 e6 e7
  have HW := Lib.hid hW
  have HS := Lib.hid hs
  have Hw := Lib.hid hw
  have HT := Lib.hid hT
  clear hW hs hw hT
  go_quiet (fail)
  clear e0 e1 e2 e3 e4 e5 e6 e7
  go_wp2_with fail
  go_loopw [5, 6, 7, 8, 9, 10, 11, 12, 34] (fun a b c d e f g h i wr => ∃ (k n : Nat), k ≤ 64 ∧ i = .int .i64 k ∧ wr = W0.drewN n ∧ a = .int .u32 (wv (Sha.rounds ws s k).a) ∧ b = .int .u32 (wv (Sha.rounds ws s k).b) ∧ c = .int .u32 (wv (Sha.rounds ws s k).c) ∧ d = .int .u32 (wv (Sha.rounds ws s k).d)
      ∧ e = .int .u32 (wv (Sha.rounds ws s k).e) ∧ f = .int .u32 (wv (Sha.rounds ws s k).f) ∧ g = .int .u32 (wv (Sha.rounds ws s k).g) ∧ h = .int .u32 (wv (Sha.rounds ws s k).h)) (fun _ _ _ _ _ _ _ _ i _ => 64 - (intOf i).toNat)
  case atStart => exact ⟨0, _, by omega, rfl, rfl, rfl, rfl, rfl, rfl, rfl, rfl, rfl, rfl⟩
  case round =>
    obtain ⟨k, nk, hk, rfl, hwr, rfl, rfl, rfl, rfl, rfl, rfl, rfl, rfl⟩ := hrel
    have HR := Lib.hid hwr
    by_cases hk64 : k < 64
    · as_aux_lemma =>
      have c1 : wr.cell? ⟨0, k, none⟩ = some (.int .u32 (wv (Sha.K.getD k 0))) := by rw [HR.out]; exact HT.out.2 k hk64
      have c2 : wr.cell? ⟨w.heap.size + 1, k, none⟩ = some (.int .u32 (wv (ws.getD k 0))) := by rw [HR.out]; exact Hw.out k (by omega)
      have hnext : Sha.rounds ws s (k + 1) = Sha.rnd (Sha.rounds ws s k) (Sha.K.getD k 0) (ws.getD k 0) := rfl
      have HN := Lib.hid hnext
      clear hnext hwr
      generalize Sha.K.getD k 0 = kk at *
      generalize ws.getD k 0 = ww at *
      generalize Sha.rounds ws s k = st at *
      have g1 := wv_xor (rotW st.e 6) (rotW st.e 11)
      have g2 : bits .xor .u32 (wv (rotW st.e 6 ^^^ rotW st.e 11)) (wv (rotW st.e 25)) = wv (Sha.S1 st.e) := wv_xor _ _
      have g3 := wv_add' st.h (Sha.S1 st.e)
      have g4 := wv_and st.e st.f
      have g5 : bits .xor .u32 (if IntKind.u32.signed = true then -1 else IntKind.u32.max) (wv st.e) = wv (~~~st.e) := wv_not _
      have g6 := wv_and (~~~st.e) st.g
      have g7 : bits .xor .u32 (wv (st.e &&& st.f)) (wv (~~~st.e &&& st.g)) = wv (Sha.ch st.e st.f st.g) := wv_xor _ _
      have g8 := wv_add' (st.h + Sha.S1 st.e) (Sha.ch st.e st.f st.g)
      have g9 := wv_add' (st.h + Sha.S1 st.e + Sha.ch st.e st.f st.g) kk
      have g10 : IntKind.u32.wrap (wv (st.h + Sha.S1 st.e + Sha.ch st.e st.f st.g + kk) + wv ww) = wv (Sha.tW st kk ww) := wv_add' _ _
      have hk0 : (k : Int) < 64 := by omega
      go_wp2_with fail
      go_quiet ((go_at_call 55; exact rotate_q _ _ _ _ (by decide) (by decide)))
      clear g1 g2 g3 g4 g5 g6 g7 g8 g9 g10 c1 c2
      have g1 := wv_xor (rotW st.a 2) (rotW st.a 13)
      have g2 : bits .xor .u32 (wv (rotW st.a 2 ^^^ rotW st.a 13)) (wv (rotW st.a 22)) = wv (Sha.S0 st.a) := wv_xor _ _
      have g3 := wv_and st.a st.b
      have g4 := wv_and st.a st.c
      have g5 := wv_xor (st.a &&& st.b) (st.a &&& st.c)
      have g6 := wv_and st.b st.c
      have g7 : bits .xor .u32 (wv (st.a &&& st.b ^^^ st.a &&& st.c)) (wv (st.b &&& st.c)) = wv (Sha.maj st.a st.b st.c) := wv_xor _ _
      have g8 : IntKind.u32.wrap (wv (Sha.S0 st.a) + wv (Sha.maj st.a st.b st.c)) = wv (Sha.uW st) := wv_add' _ _
      have g9 := wv_add' (Sha.tW st kk ww) (Sha.uW st)
      have g10 := wv_add' st.d (Sha.tW st kk ww)
      go_wp2_with (go_at_call 55; refine (rotate_any _ _ _ (by decide) (by decide)).mono ?_; rintro e w' ⟨rfl, rfl⟩)
      go_roundw
      case rel => exact ⟨k + 1, _, by omega, by go_num, by rw [HR.out]; exact World.drewN_drewN _ _ _, by rw [HN.out]; rfl, by rw [HN.out]; rfl, by rw [HN.out]; rfl, by rw [HN.out]; rfl, by rw [HN.out]; rfl, by rw [HN.out]; rfl, by rw [HN.out]; rfl, by rw [HN.out]; rfl⟩
      case measure => simp [intOf]; omega
    · obtain rfl : k = 64 := by omega
      have HR := Lib.hid hwr
      clear hwr
      generalize hR : Sha.rounds ws s 64 = R at *
      have HRR := Lib.hid hR
      clear hR
      go_wp2_with fail
      obtain ⟨W1, hW1⟩ : ∃ W, W = wr := ⟨_, rfl⟩
      rw [← hW1]
      have HW1 := Lib.hid hW1
      clear hW1
      have hh : W1.heap = (((w.alloc (.cells (wordsV s.list).toArray 56)).alloc (.cells (wordsV ws).toArray 64)).alloc (.cells #[.int .u32 0, .int .u32 0, .int .u32 0, .int .u32 0, .int .u32 0, .int .u32 0, .int .u32 0, .int .u32 0] 56)).heap := by rw [HW1.out, HR.out, HW.out]; rfl
      have r0 : RowAt W1 w.heap.size 56 s.list := by
        unfold RowAt
        rw [hh, heap_alloc_old _ _ (by simp; omega), heap_alloc_old _ _ (by simp)]; exact heap_alloc_new _ _
      have r2 : RowAt W1 (w.heap.size + 2) 56 [0, 0, 0, 0, 0, 0, 0, 0] := by
        unfold RowAt
        rw [hh, show w.heap.size + 2 = (World.alloc (World.alloc w (.cells (wordsV s.list).toArray 56)) (.cells (wordsV ws).toArray 64)).heap.size by simp]
        exact heap_alloc_new _ _
      have hb1 : Below w.heap.size w W1 := by rw [HW1.out, HR.out]; exact hB.trans ⟨rfl, rfl, rfl, Nat.le_refl _, fun _ _ => rfl⟩
      clear hk64 hh
      go_loopw [106] (fun i wr => ∃ (k : Nat), k ≤ 8 ∧ i = .int .i64 k ∧ RowAt wr w.heap.size 56 ((Sha.plus s R).list.take k ++ s.list.drop k) ∧ RowAt wr (w.heap.size + 2) 56 [0, 0, 0, 0, 0, 0, 0, 0] ∧ Below w.heap.size w wr) (fun i _ => 8 - (intOf i).toNat)
      case atStart => exact ⟨0, by omega, rfl, r0, r2, hb1⟩
      case round =>
        obtain ⟨k, hk, rfl, q0, q2, hb2⟩ := hrel
        by_cases hk8 : k < 8
        · as_aux_lemma =>
          obtain ⟨sk, hsk⟩ : ∃ x, x = s.list.getD k 0 := ⟨_, rfl⟩
          obtain ⟨rk, hrk⟩ : ∃ x, x = R.list.getD k 0 := ⟨_, rfl⟩
          have hix : ∀ W, (Instr.index 56 (.agg #[.int .u32 (wv R.a), .int .u32 (wv R.b), .int .u32 (wv R.c), .int .u32 (wv R.d), .int .u32 (wv R.e), .int .u32 (wv R.f), .int .u32 (wv R.g), .int .u32 (wv R.h)]) (.int .i64 (k : Int))).run Tryd.prog W = .ok (.int .u32 (wv rk)) W := by
            intro W
            rw [hrk]
            match k, hk8 with
            | 0, _ => rfl
            | 1, _ => rfl
            | 2, _ => rfl
            | 3, _ => rfl
            | 4, _ => rfl
            | 5, _ => rfl
            | 6, _ => rfl
            | 7, _ => rfl
          have hc : wr.cell? ⟨w.heap.size, k, none⟩ = some (.int .u32 (wv sk)) ∧ ((Sha.plus s R).list.take k ++ s.list.drop k).set k (sk + rk) = (Sha.plus s R).list.take (k + 1) ++ s.list.drop (k + 1) := by
            rw [cell_of_row wr _ k _ _ _ q0, hsk, hrk]
            match k, hk8 with
            | 0, _ => exact ⟨rfl, rfl⟩
            | 1, _ => exact ⟨rfl, rfl⟩
            | 2, _ => exact ⟨rfl, rfl⟩
            | 3, _ => exact ⟨rfl, rfl⟩
            | 4, _ => exact ⟨rfl, rfl⟩
            | 5, _ => exact ⟨rfl, rfl⟩
            | 6, _ => exact ⟨rfl, rfl⟩
            | 7, _ => exact ⟨rfl, rfl⟩
          obtain ⟨hc, hnx⟩ := hc
          have hf : wr.frozen? ⟨w.heap.size, k, none⟩ = false := frozen_of_row wr _ k _ _ q0
          have hk0 : (k : Int) < 8 := by omega
          have hq0 := q0.set k (sk + rk)
          rw [hnx] at hq0
          have hq2 := q2.other (c := w.heap.size) (i := k) (.int .u32 (wv (sk + rk))) (by omega)
          have hb3 := hb2.setCell (p := ⟨w.heap.size, k, none⟩) (Nat.le_refl _) (.int .u32 (wv (sk + rk)))
          have HQ := Lib.hid (And.intro hq0 (And.intro hq2 hb3))
          have hs := wv_add' sk rk
          clear hsk hrk hnx hq0 hq2 q0 q2 hb2 hb3
          go_wp2_with fail
          go_roundw
          case rel => exact ⟨k + 1, by omega, by go_num, HQ.out.1, HQ.out.2.1, HQ.out.2.2⟩
          case measure => simp [intOf]; omega
        · as_aux_lemma =>
          obtain rfl : k = 8 := by omega
          have hag : ∀ i (_ : (Sha.plus s R).list.length = i), True := fun _ _ => trivial
          clear hag
          have q0' : RowAt wr w.heap.size 56 (Sha.plus s R).list := q0
          have hui : (Tryd.prog.info? 56).map (·.size) = some (wordsV (Sha.plus s R).list).toArray.size := by kernel_rfl
          have huo : (Tryd.prog.info? 56).map (·.size) = some (wordsV [0, 0, 0, 0, 0, 0, 0, 0]).toArray.size := by kernel_rfl
          have HP := Lib.hid (And.intro q0' (And.intro q2 hb2))
          clear q0 q0' q2 hb2
          have hk8' : decide (((8 : Nat) : Int) < 8) = false := by decide
          go_wp2_with (first
            | (refine wpList_load_row rfl 56 (.tmp 2) rfl w.heap.size rfl 56 _ (0, 0) _ HP.out.1 Tryd.underlying56 rfl hui ?_)
            | ((refine wpList_store_row rfl 56 (.tmp 4) (.tmp 117) rfl (w.heap.size + 2) (wordsV (Sha.plus s R).list).toArray rfl rfl 56 _ HP.out.2.1 hui rfl (wordsV_one _) ?_)))
          have hrow : ((wr.setRow (w.heap.size + 2) (wordsV (Sha.plus s R).list).toArray).heap[w.heap.size + 2]?) = some (.cells (wordsV (Sha.plus s R).list).toArray 56 (0, 0)) := setRow_heap wr _ _ _ _ _ HP.out.2.1
          refine bodyPost_ret (results_cell_row rfl _ _ (w.heap.size + 2) 56 _ (0, 0) _ rfl hrow Tryd.underlying56 rfl hui) rfl ?_
          rw [HRR.out]
          exact ⟨rfl, below_setRow HP.out.2.2 (by omega) _⟩
end Go.Proofs.YtbaggjhjkignkaaDoor

