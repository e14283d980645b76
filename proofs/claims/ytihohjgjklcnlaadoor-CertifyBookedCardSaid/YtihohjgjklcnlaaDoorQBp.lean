/-
  The contract of the package's schedule.
  The contract of the package's padding.
  A range over a function whose iterator keeps a state of its own in cells: the contract of such an iterator, and the law for a caller whose body never leaves the loop.
-/
import Derived.Test.YtihohjgjklcnlaaDoorQBo1
import Derived.StillTailTactics
import Derived.IntWalk
import Derived.WalkSmall
import Derived.Laws.MakeOwn
import Derived.OwnWalk
import Derived.RangeFuncBox
import Derived.RangeFuncNested
import Derived.RangeFuncBound
import Derived.RangeFuncCalls
import Derived.RangeFuncLeaves
import Derived.Shelf.Abstract
import Derived.Shelf.RegionOpen
import Derived.OwnWalkIn
import Derived.TacticsInMore
import Derived.LoopNIn
import Derived.LoopIn
namespace Go.Proofs.YtihohjgjklcnlaaDoor.Wb
open Go.RowKit

/-- A block of bytes. -/
def BytesAt (w : World) (b : Nat) (l : List UInt8) : Prop := ∀ i, i < l.length → w.cell? ⟨b, i, none⟩ = some (.int .u8 (wv (bw (l.getD i 0))))
theorem BytesAt.of_heap {w : World} {b : Nat} {l : List UInt8} {t : TypeId} {fr : Nat × Nat} (h : w.heap[b]? = some (.cells (bytesV l).toArray t fr)) : BytesAt w b l := fun i hi => by
  rw [cell_of_row w b i _ t fr h]
  simpa using bytesV_at l i hi

/-- A block that is a row of bytes, as a whole. -/
def BRowAt (w : World) (b : Nat) (t : TypeId) (l : List UInt8) : Prop := w.heap[b]? = some (.cells (bytesV l).toArray t (0, 0))
theorem BRowAt.other {w : World} {b c i : Nat} {t : TypeId} {l : List UInt8} (h : BRowAt w b t l) (v : Value) (hn : b ≠ c) : BRowAt (w.setCell ⟨c, i, none⟩ v) b t l := by
  unfold BRowAt
  rw [heap_setCell_other _ _ _ _ hn]; exact h
theorem BRowAt.bytes {w : World} {b : Nat} {t : TypeId} {l : List UInt8} (h : BRowAt w b t l) : BytesAt w b l := BytesAt.of_heap h
/-- The words so far, and zeros. -/
def filled (ws : List Wd) : List Wd := ws ++ List.replicate (64 - ws.length) 0
theorem filled_set (ws : List Wd) (x : Wd) (h : ws.length < 64) : (filled ws).set ws.length x = filled (ws ++ [x]) := by
  unfold filled
  obtain ⟨m, hm⟩ : ∃ m, 64 - ws.length = m + 1 := ⟨63 - ws.length, by omega⟩
  rw [List.set_append_right _ _ (Nat.le_refl _), Nat.sub_self, hm, List.replicate_succ, List.set_cons_zero, List.length_append, List.length_singleton, List.append_assoc,
    show 64 - (ws.length + 1) = m by omega]
  rfl
theorem filled_at (ws : List Wd) (i : Nat) (h : i < ws.length) : (filled ws).getD i 0 = ws.getD i 0 := by
  unfold filled
  rw [List.getD, List.getD, List.getElem?_append_left h]
theorem filled_length (ws : List Wd) (h : ws.length ≤ 64) : (filled ws).length = 64 := by
  unfold filled; rw [List.length_append, List.length_replicate]; omega
theorem filled_all (ws : List Wd) (h : ws.length = 64) : filled ws = ws := by
  unfold filled; rw [h]; exact List.append_nil _
theorem RowAt.cell {w : World} {b : Nat} {t : TypeId} {ws : List Wd} (h : RowAt w b t (filled ws)) (i : Nat) (hi : i < ws.length) (hl : ws.length ≤ 64) : w.cell? ⟨b, i, none⟩ = some (.int .u32 (wv (ws.getD i 0))) := by
  have hf := filled_length ws hl
  rw [cell_of_row w b i _ t _ h, ← filled_at ws i hi]
  simpa using wordsV_at (filled ws) i (by omega)
theorem RowAt.frozen {w : World} {b : Nat} {t : TypeId} {ws : List Wd} (h : RowAt w b t ws) (i : Nat) : w.frozen? ⟨b, i, none⟩ = false := frozen_of_row w b i _ t h

theorem filled_nil : (wordsV (filled [])).toArray = #[.int .u32 0, .int .u32 0, .int .u32 0, .int .u32 0, .int .u32 0, .int .u32 0, .int .u32 0, .int .u32 0, .int .u32 0, .int .u32 0, .int .u32 0, .int .u32 0, .int .u32 0, .int .u32 0, .int .u32 0, .int .u32 0, .int .u32 0, .int .u32 0, .int .u32 0, .int .u32 0, .int .u32 0, .int .u32 0, .int .u32 0, .int .u32 0, .int .u32 0, .int .u32 0, .int .u32 0, .int .u32 0, .int .u32 0, .int .u32 0, .int .u32 0, .int .u32 0, .int .u32 0, .int .u32 0, .int .u32 0, .int .u32 0, .int .u32 0, .int .u32 0, .int .u32 0, .int .u32 0, .int .u32 0, .int .u32 0, .int .u32 0, .int .u32 0, .int .u32 0, .int .u32 0, .int .u32 0, .int .u32 0, .int .u32 0, .int .u32 0, .int .u32 0, .int .u32 0, .int .u32 0, .int .u32 0, .int .u32 0, .int .u32 0, .int .u32 0, .int .u32 0, .int .u32 0, .int .u32 0, .int .u32 0, .int .u32 0, .int .u32 0, .int .u32 0] := rfl

theorem RowAt.some {w : World} {b : Nat} {t : TypeId} {ws : List Wd} (h : RowAt w b t ws) (i : Nat) (hi : i < ws.length) : ∃ v, w.cell? ⟨b, i, none⟩ = some v :=
  ⟨_, by rw [cell_of_row w b i _ t _ h]; simpa using wordsV_at ws i hi⟩
set_option maxRecDepth 100000 in
set_option maxHeartbeats 2000000 in
theorem schedule_any (p : List UInt8) (hl : p.length = 64) (w : World) :
    Calls Tryd.prog 99 #[.agg (bytesV p).toArray] w fun e w' => e = .returned (.agg (wordsV (Sha.sched p)).toArray) ∧ Below w.heap.size w w' := by
  go_enter Tryd.func99, Tryd.ntmps99
  go_wp2_with fail
  rw [← filled_nil]
  obtain ⟨W0, hW⟩ : ∃ W, W = ((w.alloc (.cells (bytesV p).toArray 173)).alloc (.cells (wordsV (filled [])).toArray 175)).alloc (.cells (wordsV (filled [])).toArray 175) := ⟨_, rfl⟩
  rw [← hW]
  have hB : Below w.heap.size w W0 := by rw [hW]; exact (((Below.refl _ w).alloc (Nat.le_refl _) _).alloc (by simp) _).alloc (by simp; omega) _
  have hp : BRowAt W0 w.heap.size 173 p := (by unfold BRowAt; rw [hW, heap_alloc_old _ _ (by simp; omega), heap_alloc_old _ _ (by simp)]; exact heap_alloc_new _ _)
  have h1 : RowAt W0 (w.heap.size + 1) 175 (filled []) := by unfold RowAt; rw [hW, heap_alloc_old _ _ (by simp)]; exact heap_alloc2_new _ _ _
  have h2 : RowAt W0 (w.heap.size + 1 + 1) 175 (filled []) := by
    unfold RowAt
    rw [hW, show w.heap.size + 1 + 1 = ((w.alloc (.cells (bytesV p).toArray 173)).alloc (.cells (wordsV (filled [])).toArray 175)).heap.size by simp]
    exact heap_alloc_new _ _
  have HL := Lib.hid hl
  clear hW hl
  go_loopw [8] (fun i wr => ∃ k : Nat, k ≤ 16 ∧ i = .int .i64 k ∧ BRowAt wr w.heap.size 173 p ∧ RowAt wr (w.heap.size + 1) 175 (filled []) ∧ RowAt wr (w.heap.size + 1 + 1) 175 (filled (Sha.firstW p k)) ∧ Below w.heap.size w wr) (fun i _ => 16 - (intOf i).toNat)
  case atStart => exact ⟨0, by omega, rfl, hp, h1, h2, hB⟩
  case round =>
    clear hp h1 h2 hB
    obtain ⟨k, hk, rfl, hp, h1, h2, hB⟩ := hrel
    by_cases hk16 : k < 16
    · as_aux_lemma =>
      have hl := HL.out
      have c0 := hp.bytes (4 * k) (by omega)
      have c1 := hp.bytes (4 * k + 1) (by omega)
      have c2 := hp.bytes (4 * k + 2) (by omega)
      have c3 := hp.bytes (4 * k + 3) (by omega)
      have hf := h2.frozen k
      obtain ⟨ov, ho⟩ := h2.some k (by rw [filled_length _ (by rw [Sha.firstW_length]; omega)]; omega)
      have hlen := Sha.firstW_length p k
      have h2' := h2.set k (Sha.be p (4 * k))
      have hst := filled_set (Sha.firstW p k) (Sha.be p (4 * k)) (by omega)
      rw [hlen] at hst
      rw [hst] at h2'
      have hp' := hp.other (c := w.heap.size + 1 + 1) (i := k) (.int .u32 (wv (Sha.be p (4 * k)))) (by omega)
      have h1' := h1.other (c := w.heap.size + 1 + 1) (i := k) (.int .u32 (wv (Sha.be p (4 * k)))) (by omega)
      have hB' := hB.setCell (p := ⟨w.heap.size + 1 + 1, k, none⟩) (by simp; omega) (.int .u32 (wv (Sha.be p (4 * k))))
      have HX := Lib.hid (And.intro (And.intro hp' h1') (And.intro h2' hB'))
      clear hl hlen hst h2' hp h1 h2 hB hp' h1' hB'
      obtain ⟨x0, e0⟩ : ∃ x, x = p.getD (4 * k) 0 := ⟨_, rfl⟩
      obtain ⟨x1, e1⟩ : ∃ x, x = p.getD (4 * k + 1) 0 := ⟨_, rfl⟩
      obtain ⟨x2, e2⟩ : ∃ x, x = p.getD (4 * k + 2) 0 := ⟨_, rfl⟩
      obtain ⟨x3, e3⟩ : ∃ x, x = p.getD (4 * k + 3) 0 := ⟨_, rfl⟩
      rw [← e0] at c0
      rw [← e1] at c1
      rw [← e2] at c2
      rw [← e3] at c3
      have HE := Lib.hid (And.intro (And.intro e0 e1) (And.intro e2 e3))
      clear e0 e1 e2 e3
      obtain ⟨m, hm⟩ : ∃ m, 4 * k = m := ⟨_, rfl⟩
      rw [hm] at c0 c1 c2 c3
      have hm0 : m ≤ 60 := by omega
      have w0 : IntKind.i64.wrap (4 * (k : Int)) = (m : Int) := by rw [IntWalk.i64_in _ ⟨by omega, by omega⟩]; omega
      have w1 : IntKind.i64.wrap ((m : Int) + 1) = (m : Int) + 1 := IntWalk.i64_in _ ⟨by omega, by omega⟩
      have w2 : IntKind.i64.wrap ((m : Int) + 2) = (m : Int) + 2 := IntWalk.i64_in _ ⟨by omega, by omega⟩
      have w3 : IntKind.i64.wrap ((m : Int) + 3) = (m : Int) + 3 := IntWalk.i64_in _ ⟨by omega, by omega⟩
      have t1 : ((m : Int) + 1).toNat = m + 1 := by omega
      have t2 : ((m : Int) + 2).toNat = m + 2 := by omega
      have t3 : ((m : Int) + 3).toNat = m + 3 := by omega
      have l0 : (m : Int) < 64 := by omega
      have l1 : (m : Int) + 1 < 64 := by omega
      have l2 : (m : Int) + 2 < 64 := by omega
      have l3 : (m : Int) + 3 < 64 := by omega
      have n1 : 0 ≤ (m : Int) + 1 := by omega
      have n2 : 0 ≤ (m : Int) + 2 := by omega
      have n3 : 0 ≤ (m : Int) + 3 := by omega
      have b0 := wv_bw_lt x0
      have b1 := wv_bw_lt x1
      have b2 := wv_bw_lt x2
      have b3 := wv_bw_lt x3
      have z0 := wv_nonneg (bw x0)
      have z1 := wv_nonneg (bw x1)
      have z2 := wv_nonneg (bw x2)
      have z3 := wv_nonneg (bw x3)
      have hk0 : (k : Int) < 16 := by omega
      have hk1 : (k : Int) < 64 := by omega
      have HM := Lib.hid hm
      clear hm
      have g0 := wv_wrap (bw x0)
      have g1 := wv_wrap (bw x1)
      have g2 := wv_wrap (bw x2)
      have g3 := wv_wrap (bw x3)
      have g4 := wv_shlk (bw x0) 24 16777216 rfl
      have g5 := wv_shlk (bw x1) 16 65536 rfl
      have g6 := wv_shlk (bw x2) 8 256 rfl
      have g7 := wv_or (bw x0 <<< 24) (bw x1 <<< 16)
      have g8 := wv_or (bw x0 <<< 24 ||| bw x1 <<< 16) (bw x2 <<< 8)
      have g9 := wv_or (bw x0 <<< 24 ||| bw x1 <<< 16 ||| bw x2 <<< 8) (bw x3)
      go_wp2_with fail
      go_still_tail 31, (by kernel_rfl)
      change wpList _ _ _ _ _ wr.drew
      go_wp2_with fail
      go_roundw
      case rel =>
        have hbe : Sha.be p (4 * k) = bw x0 <<< 24 ||| bw x1 <<< 16 ||| bw x2 <<< 8 ||| bw x3 := by rw [HE.out.1.1, HE.out.1.2, HE.out.2.1, HE.out.2.2]; rfl
        rw [hbe] at HX
        exact ⟨k + 1, by omega, by go_num, HX.out.1.1, HX.out.1.2, by rw [Sha.firstW, hbe]; exact HX.out.2.1, HX.out.2.2.drew⟩
      case measure => simp [intOf]; omega
    · have hke : k = 16 := by omega
      rw [hke] at h2
      have hd16 : decide ((k : Int) < 16) = false := by simp; omega
      clear hk16 hk hke
      go_wp2_with fail
      clear hd16
      obtain ⟨W1, hW1⟩ : ∃ W, W = wr := ⟨_, rfl⟩
      rw [← hW1] at hp h1 h2 hB ⊢
      clear hW1
      go_loopw [5] (fun i wr => ∃ k : Nat, 16 ≤ k ∧ k ≤ 64 ∧ i = .int .i64 k ∧ RowAt wr (w.heap.size + 1) 175 (filled []) ∧ RowAt wr (w.heap.size + 1 + 1) 175 (filled (Sha.moreW (k - 16) (Sha.firstW p 16))) ∧ Below w.heap.size w wr) (fun i _ => 64 - (intOf i).toNat)
      case atStart => exact ⟨16, by omega, by omega, rfl, h1, h2, hB⟩
      case round =>
        clear hp h1 h2 hB
        obtain ⟨k, hk0, hk, rfl, h1, h2, hB⟩ := hrel
        by_cases hk64 : k < 64
        · as_aux_lemma =>
          have hn : Sha.moreW (k + 1 - 16) (Sha.firstW p 16) = Sha.moreW (k - 16) (Sha.firstW p 16) ++ [Sha.nextW (Sha.moreW (k - 16) (Sha.firstW p 16))] := by
            rw [show k + 1 - 16 = (k - 16) + 1 by omega]; rfl
          have hlen : (Sha.moreW (k - 16) (Sha.firstW p 16)).length = k := by rw [Sha.moreW_length, Sha.firstW_length]; omega
          generalize Sha.moreW (k - 16) (Sha.firstW p 16) = ws at *
          have c15 := h2.cell (k - 15) (by omega) (by omega)
          have c2 := h2.cell (k - 2) (by omega) (by omega)
          have c16 := h2.cell (k - 16) (by omega) (by omega)
          have c7 := h2.cell (k - 7) (by omega) (by omega)
          have hnx : Sha.nextW ws = ws.getD (k - 16) 0 + Sha.s0 (ws.getD (k - 15) 0) + ws.getD (k - 7) 0 + Sha.s1 (ws.getD (k - 2) 0) := by unfold Sha.nextW; rw [hlen]
          have hst := filled_set ws (Sha.nextW ws) (by omega)
          rw [hlen, ← hn, hnx] at hst
          have HST := Lib.hid hst
          have HLN := Lib.hid hlen
          have H2 := Lib.hid h2
          have H1 := Lib.hid (And.intro h1 hB)
          clear hn hlen hnx hst h1 h2 hB
          generalize ws.getD (k - 15) 0 = a15 at *
          generalize ws.getD (k - 2) 0 = a2 at *
          generalize ws.getD (k - 16) 0 = a16 at *
          generalize ws.getD (k - 7) 0 = a7 at *
          have w15 : IntKind.i64.wrap ((k : Int) - 15) = ((k - 15 : Nat) : Int) := by rw [IntWalk.i64_in _ ⟨by omega, by omega⟩]; omega
          have w2 : IntKind.i64.wrap ((k : Int) - 2) = ((k - 2 : Nat) : Int) := by rw [IntWalk.i64_in _ ⟨by omega, by omega⟩]; omega
          have w16 : IntKind.i64.wrap ((k : Int) - 16) = ((k - 16 : Nat) : Int) := by rw [IntWalk.i64_in _ ⟨by omega, by omega⟩]; omega
          have w7 : IntKind.i64.wrap ((k : Int) - 7) = ((k - 7 : Nat) : Int) := by rw [IntWalk.i64_in _ ⟨by omega, by omega⟩]; omega
          have l15 : ((k - 15 : Nat) : Int) < 64 := by omega
          have l2 : ((k - 2 : Nat) : Int) < 64 := by omega
          have l16 : ((k - 16 : Nat) : Int) < 64 := by omega
          have l7 : ((k - 7 : Nat) : Int) < 64 := by omega
          have hkl : (k : Int) < 64 := by omega
          generalize k - 15 = m15 at *
          generalize k - 2 = m2 at *
          generalize k - 16 = m16 at *
          generalize k - 7 = m7 at *
          have g1 := wv_xor (rotW a15 7) (rotW a15 18)
          have g2 := wv_shrk a15 3 8 rfl
          have g3 : bits .xor .u32 (wv (rotW a15 7 ^^^ rotW a15 18)) (wv (a15 >>> 3)) = wv (Sha.s0 a15) := wv_xor _ _
          have g4 := wv_xor (rotW a2 17) (rotW a2 19)
          have g5 := wv_shrk a2 10 1024 rfl
          have g6 : bits .xor .u32 (wv (rotW a2 17 ^^^ rotW a2 19)) (wv (a2 >>> 10)) = wv (Sha.s1 a2) := wv_xor _ _
          have g7 := wv_add' a16 (Sha.s0 a15)
          have g8 := wv_add' (a16 + Sha.s0 a15) a7
          have g9 := wv_add' (a16 + Sha.s0 a15 + a7) (Sha.s1 a2)
          go_wp2_with fail
          go_quiet ((go_at_call 108; exact rotate_q _ _ _ _ (by decide) (by decide)))
          go_wp2_with fail
          go_quiet ((go_at_call 108; exact rotate_q2 _ _ _ _ _ (by decide) (by decide)))
          go_wp2_with fail
          generalize hw9 : (wr.drewN _).drewN _ = w9
          have c16' : w9.cell? ⟨w.heap.size + 1 + 1, m16, none⟩ = some (.int .u32 (wv a16)) := by rw [← hw9]; exact c16
          have c7' : w9.cell? ⟨w.heap.size + 1 + 1, m7, none⟩ = some (.int .u32 (wv a7)) := by rw [← hw9]; exact c7
          have h2 : RowAt w9 (w.heap.size + 1 + 1) 175 (filled ws) := by rw [← hw9]; exact H2.out
          have h1 : RowAt w9 (w.heap.size + 1) 175 (filled []) := by rw [← hw9]; exact H1.out.1
          have hB : Below w.heap.size w w9 := by rw [← hw9]; exact below_drewN (below_drewN H1.out.2 _) _
          have hf := h2.frozen k
          obtain ⟨ov, ho⟩ := h2.some k (by rw [filled_length _ (by rw [HLN.out]; omega)]; omega)
          have h2' := h2.set k (a16 + Sha.s0 a15 + a7 + Sha.s1 a2)
          rw [HST.out] at h2'
          have h1' := h1.other (c := w.heap.size + 1 + 1) (i := k) (.int .u32 (wv (a16 + Sha.s0 a15 + a7 + Sha.s1 a2))) (by omega)
          have hB' := hB.setCell (p := ⟨w.heap.size + 1 + 1, k, none⟩) (by simp; omega) (.int .u32 (wv (a16 + Sha.s0 a15 + a7 + Sha.s1 a2)))
          have HX := Lib.hid (And.intro h1' (And.intro h2' hB'))
          clear hw9 h2 h1 hB h2' h1' hB' c16 c7 c15 c2
          go_still_tail 15, (by kernel_rfl)
          change wpList _ _ _ _ _ w9.drew
          go_wp2_with fail
          go_roundw
          case rel => exact ⟨k + 1, by omega, by omega, by go_num, HX.out.1, HX.out.2.1, HX.out.2.2.drew⟩
          case measure => simp [intOf]; omega
        · as_aux_lemma =>
          obtain rfl : k = 64 := by omega
          have hlen : (Sha.moreW (64 - 16) (Sha.firstW p 16)).length = 64 := by rw [Sha.moreW_length, Sha.firstW_length]
          have h2' : RowAt wr (w.heap.size + 1 + 1) 175 (Sha.sched p) := by
            have := h2
            rw [filled_all _ hlen] at this
            exact this
          have hui : (Tryd.prog.info? 175).map (·.size) = some (wordsV (Sha.sched p)).toArray.size := by
            rw [List.size_toArray, wordsV_length, Sha.sched_length]; kernel_rfl
          have hold : (wordsV (filled [])).toArray.size = (wordsV (Sha.sched p)).toArray.size := by
            rw [List.size_toArray, wordsV_length, List.size_toArray, wordsV_length, Sha.sched_length]; rfl
          have HP := Lib.hid (And.intro h2' (And.intro h1 hB))
          have HO := Lib.hid (And.intro hui hold)
          have hk8' : decide (((64 : Nat) : Int) < 64) = false := by decide
          clear h2 h2' h1 hB hlen hui hold
          go_wp2_with (first
            | (refine wpList_load_row rfl 175 (.tmp 3) rfl (w.heap.size + 1 + 1) rfl 175 _ (0, 0) _ HP.out.1 Tryd.underlying175 rfl HO.out.1 ?_)
            | (refine wpList_store_row rfl 175 (.tmp 2) (.tmp 96) rfl (w.heap.size + 1) (wordsV (Sha.sched p)).toArray rfl rfl 175 _ HP.out.2.1 HO.out.1 HO.out.2 (wordsV_one _) ?_))
          have hrow : ((wr.setRow (w.heap.size + 1) (wordsV (Sha.sched p)).toArray).heap[w.heap.size + 1]?) = some (.cells (wordsV (Sha.sched p)).toArray 175 (0, 0)) := setRow_heap wr _ _ _ _ _ HP.out.2.1
          refine bodyPost_ret (results_cell_row rfl _ _ (w.heap.size + 1) 175 _ (0, 0) _ rfl hrow Tryd.underlying175 rfl HO.out.1) rfl ?_
          exact ⟨rfl, below_setRow HP.out.2.2 (by omega) _⟩
end Go.Proofs.YtihohjgjklcnlaaDoor.Wb

namespace Go.Proofs.YtihohjgjklcnlaaDoor.Wb
open Go.RowKit

theorem made_bytes (m : Nat) : madeCells (Value.int .u8 0).cells m = (bytesV (List.replicate m 0)).toArray := by
  apply Array.ext
  · rw [size_madeCells, List.size_toArray, bytesV_length, List.length_replicate]
  · intro i h1 h2
    rw [size_madeCells] at h1
    have h0 : i % 1 = 0 := Nat.mod_one i
    simp [madeCells, bytesV, Value.cells, h0]
    rfl

/-- The last k bytes of a padding. -/
def lenB (n : Nat) : Nat → List UInt8
  | 0 => []
  | k + 1 => UInt8.ofNat (8 * n / 2 ^ (8 * k)) :: lenB n k
theorem lenB_length (n : Nat) : ∀ k, (lenB n k).length = k
  | 0 => rfl
  | k + 1 => by rw [lenB, List.length_cons, lenB_length n k]
/-- A padding with the last k bytes only. -/
def padTo (n z k : Nat) : List UInt8 := 128 :: (List.replicate (z + 8 - k) 0 ++ lenB n k)
theorem padTo_length (n z k : Nat) (h : k ≤ 8) : (padTo n z k).length = z + 9 := by
  unfold padTo; rw [List.length_cons, List.length_append, List.length_replicate, lenB_length]; omega
theorem padTo_all (n : Nat) : padTo n (Sha.padZ n) 8 = Sha.padB n := by
  unfold padTo Sha.padB; rfl
theorem padTo_set (n z k : Nat) (h : k < 8) : (padTo n z k).set (z + 8 - k) (UInt8.ofNat (8 * n / 2 ^ (8 * k))) = padTo n z (k + 1) := by
  unfold padTo
  obtain ⟨m, hm⟩ : ∃ m, z + 8 - k = m + 1 := ⟨z + 7 - k, by omega⟩
  rw [hm, show z + 8 - (k + 1) = m by omega, List.set_cons_succ, List.replicate_succ', List.append_assoc, List.set_append_right _ _ (by rw [List.length_replicate]; exact Nat.le_refl _), List.length_replicate, Nat.sub_self]
  rfl

theorem pad_start (n z : Nat) : (bytesV (List.replicate (z + 9) 0)).set 0 (.int .u8 128) = bytesV (padTo n z 0) := by
  show (bytesV (List.replicate (z + 9) 0)).set 0 (.int .u8 (wv (bw 128))) = _
  unfold bytesV padTo lenB
  rw [← List.map_set, show z + 9 = (z + 8) + 1 by omega, List.replicate_succ, List.set_cons_zero, List.append_nil, Nat.sub_zero]
theorem len_byte (n k : Nat) : 8 * (n : Int) / 2 ^ (8 * k) % 256 = wv (bw (UInt8.ofNat (8 * n / 2 ^ (8 * k)))) := by
  rw [wv_bw, UInt8.toNat_ofNat']
  simp
/-- The bytes of a row, as a string. -/
theorem BRowAt.text {w : World} {b : Nat} {l : List UInt8} (h : BRowAt w b 5 l) (n c : Nat) (hn : l.length = n) : (convert 65 9 (.slice (some ⟨b, 0, none⟩) n c)).run Tryd.prog w = .ok (.string ⟨l.toArray⟩) w := by
  subst hn
  refine run_convert_bytes_back w 65 9 5 ⟨b, 0, none⟩ c l Tryd.underlying65 Tryd.underlying5 Tryd.underlying9 ?_
  intro j hj
  have := h.bytes j hj
  rw [wv_bw, List.getD, List.getElem?_eq_getElem hj] at this
  have hadd : (⟨b, 0, none⟩ : Addr).add j = ⟨b, j, none⟩ := by cases j <;> simp [Addr.add]
  rw [hadd]; exact this

theorem BRowAt.set {w : World} {b : Nat} {t : TypeId} {l : List UInt8} (h : BRowAt w b t l) (i : Nat) (x : UInt8) : BRowAt (w.setCell ⟨b, i, none⟩ (.int .u8 (wv (bw x)))) b t (l.set i x) := by
  unfold BRowAt
  rw [heap_setCell_same w b i _ t _ h]
  congr 2
  unfold bytesV
  rw [List.map_set, List.setIfInBounds_toArray]
theorem BRowAt.frozen {w : World} {b : Nat} {t : TypeId} {l : List UInt8} (h : BRowAt w b t l) (i : Nat) : w.frozen? ⟨b, i, none⟩ = false := frozen_of_row w b i _ t h
theorem BRowAt.some {w : World} {b : Nat} {t : TypeId} {l : List UInt8} (h : BRowAt w b t l) (i : Nat) (hi : i < l.length) : ∃ v, w.cell? ⟨b, i, none⟩ = some v := ⟨_, h.bytes i hi⟩

theorem info_u8 : (Tryd.prog.info? 5).map (fun i => (i.zero, i.size, i.bytes)) = some (some (.int .u8 0), 1, 1) := by kernel_rfl

set_option maxRecDepth 100000 in
set_option maxHeartbeats 1000000 in
theorem padding_any (n : Nat) (w : World) (hn : n < 1000000) :
    Calls Tryd.prog 97 #[.int .i64 n] w fun e w' => e = .returned (.string ⟨(Sha.padB n).toArray⟩) ∧ Below w.heap.size w w' := by
  obtain ⟨i0, hi, hz0, hz1, hz2⟩ := info_parts info_u8
  have hZ : (119 - (n : Int) % 64) % 64 = ((Sha.padZ n : Nat) : Int) := by unfold Sha.padZ; omega
  have hZ1 : Sha.padZ n < 64 := by unfold Sha.padZ; omega
  have hall := padTo_all n
  have HALL := Lib.hid hall
  clear hall
  generalize Sha.padZ n = z at *
  have hmk : ∀ W, (Instr.makeSlice 65 (.int .i64 (1 + (z : Int) + 8)) (.int .i64 (1 + (z : Int) + 8))).run Tryd.prog W = .ok (.slice (some ⟨W.heap.size, 0, none⟩) (z + 9) (z + 9)) (W.alloc (.cells (bytesV (List.replicate (z + 9) 0)).toArray 5)) := by
    intro W
    have := run_make (P := Tryd.prog) W 65 5 i0 (.int .u8 0) Tryd.underlying65 hi hz0 .i64 .i64 (1 + (z : Int) + 8) (1 + (z : Int) + 8) (by omega) (Int.le_refl _) (by rw [hz2]; omega) (by omega)
    rw [this, hz1, show (1 + (z : Int) + 8).toNat = z + 9 by omega, Nat.mul_one, made_bytes]
  go_enter Tryd.func97, Tryd.ntmps97
  go_wp2_with fail
  obtain ⟨W1, hW⟩ : ∃ W, W = w.alloc (.cells ((bytesV (List.replicate (z + 9) 0)).set 0 (.int .u8 128)).toArray 5) := ⟨_, rfl⟩
  rw [← hW]
  have hr : BRowAt W1 w.heap.size 5 (padTo n z 0) := by
    unfold BRowAt
    rw [hW, heap_alloc_new, pad_start]
  have hB : Below w.heap.size w W1 := by rw [hW]; exact (Below.refl _ w).alloc (Nat.le_refl _) _
  clear hW hmk hZ
  go_loopw [16] (fun i wr => ∃ k : Nat, k ≤ 8 ∧ i = .int .i64 k ∧ BRowAt wr w.heap.size 5 (padTo n z k) ∧ Below w.heap.size w wr) (fun i _ => 8 - (intOf i).toNat)
  case atStart => exact ⟨0, by omega, rfl, hr, hB⟩
  case round =>
    clear hr hB
    obtain ⟨k, hk, rfl, hr, hB⟩ := hrel
    by_cases hk8 : k < 8
    · skip
      have hf := hr.frozen (z + 8 - k)
      obtain ⟨ov, ho⟩ := hr.some (z + 8 - k) (by rw [padTo_length _ _ _ hk]; omega)
      have hr' := hr.set (z + 8 - k) (UInt8.ofNat (8 * n / 2 ^ (8 * k)))
      rw [padTo_set n z k hk8] at hr'
      have hB' := hB.setCell (p := ⟨w.heap.size, z + 8 - k, none⟩) (Nat.le_refl _) (.int .u8 (wv (bw (UInt8.ofNat (8 * n / 2 ^ (8 * k))))))
      have HX := Lib.hid (And.intro hr' hB')
      have hi1 : 0 ≤ (z : Int) + 8 - (k : Int) := by omega
      have hi2 : ((z : Int) + 8 - (k : Int)).toNat = z + 8 - k := by omega
      clear hr hr' hB hB'
      go_wp2_with fail
      go_roundw
      case rel =>
        rw [len_byte]
        exact ⟨k + 1, by omega, by go_num, HX.out.1, HX.out.2⟩
      case measure => simp [intOf]; omega
    · have hke : k = 8 := by omega
      have hd8 : decide ((k : Int) < 8) = false := by simp; omega
      rw [hke, HALL.out] at hr
      have hl : (Sha.padB n).length = z + 9 := by rw [← HALL.out, padTo_length _ _ _ (by omega)]
      have hcv := hr.text (z + 9) (z + 9) hl
      have HB := Lib.hid hB
      clear hk8 hk hke hr hl hB
      go_wp2_with fail
      go_ret
      exact ⟨rfl, HB.out⟩
end Go.Proofs.YtihohjgjklcnlaaDoor.Wb

namespace Go.Proofs.YtihohjgjklcnlaaDoor.Wb
open Go.RowKit

section
variable {F : Fence} {n : Nat} {P : Program} {ops : Array Oper} {rest : List Oper} {o : Oper} {a : Act} {w : World} {Q : Exit → Act → World → Prop}
/-- The same two as single operations. -/
theorem opIn_load_row {K : Act → World → Prop} (ty : TypeId) (x : Operand) (ho : o.op = .load ty x) (g : Nat) (hx : a.eval x = .pointer (some ⟨g, 0, none⟩)) (t : TypeId) (cs : Array Value) (fr : Nat × Nat) (d : TypeDesc)
    (hg : w.heap[g]? = some (.cells cs t fr)) (hu : P.underlying ty = some d) (hd : (match d with | .struct _ | .array _ _ => true | _ => false) = true) (hi : (P.info? ty).map (·.size) = some cs.size)
    (h : K (a.put o.dst (.agg cs)) w) : o.wpIn F n P a w K Q := by
  refine ⟨?_, ?_⟩
  · simp [Oper.about, ho]
  · rw [Oper.semAt_plain F _ _ (by rw [ho]; intro c hc; cases hc)]
    simp only [execOp, ho, hx, Instr.loadAt, Instr.sureAddr, Sem.run_bind, Sem.run_pure, Result.andThen_ok, run_loadVar_row w g t ty cs fr d hg hu hd hi]
    exact h
theorem opIn_store_row {K : Act → World → Prop} (ty : TypeId) (x y : Operand) (ho : o.op = .store ty x y) (g : Nat) (cells : Array Value) (hx : a.eval x = .pointer (some ⟨g, 0, none⟩)) (hy : a.eval y = .agg cells)
    (t : TypeId) (old : Array Value) (hg : w.heap[g]? = some (.cells old t (0, 0))) (hi : (P.info? ty).map (·.size) = some cells.size) (hold : old.size = cells.size) (h1 : cells.all (·.oneCell') = true)
    (h : K (a.put o.dst undef) (w.setRow g cells)) : o.wpIn F n P a w K Q := by
  refine ⟨?_, ?_⟩
  · simp [Oper.about, ho]
  · rw [Oper.semAt_plain F _ _ (by rw [ho]; intro c hc; cases hc)]
    simp only [execOp, ho, hx, hy, Instr.storeAt, Instr.sureAddr, Sem.run_bind, Sem.run_pure, Result.andThen_ok, run_storeVar_row w g t ty old cells hg hi hold h1]
    exact h
/-- An append to a row of the call's own, as a single operation. -/
theorem opIn_append_own {K : Act → World → Prop} (s x : Operand) (t : TypeId) (hop : o.op = Op.call { callee := Callee.builtin Builtin.append, args := #[s, x], argTypes := #[t, t] })
    (base : Nat) (e : TypeId) (i : TypeInfo) (z : Value) (size bytes : Nat) (h1 : P.underlying t = some (.slice e)) (h2 : P.info? e = some i) (h3 : i.zero = some z) (h4 : i.size = size) (h5 : i.bytes = bytes) (h6 : z.cells.size = size) (h7 : 0 < size)
    (v : Value) (k : Nat) (xs : List Value) (hs : a.eval s = v) (hown : w.ownsRow base e size v k xs) (ad : Addr) (m c : Nat) (news : List Value) (hx : a.eval x = .slice (some ad) m c) (hn : news.length = m * size)
    (hc : ∀ j u, news[j]? = some u → w.cell? (ad.add j) = some u) (h1c : ∀ u ∈ news, u.oneCell' = true) (b1 : k + m ≤ maxLen) (b2 : (k + m) * bytes ≤ 140737488355328) (b3 : base ≤ w.heap.size)
    (hK : ∀ v' w', w'.ownsRow base e size v' (k + m) (xs ++ news) → w.grownBy w' v.ownBlock → K (a.put o.dst v') w') : o.wpIn F n P a w K Q := by
  obtain ⟨v', w', hrun, r1, r2, _⟩ := run_append_own (P := P) w base t o.type e i z size bytes h1 h2 h3 h4 h5 h6 h7 v k xs hown ad m c news hn hc h1c b1 b2 b3
  refine ⟨?_, ?_⟩
  · simp [Oper.about, hop, resolve, Target.leads, Sem.run_pure]
  · rw [Oper.semAt_plain F _ _ (by rw [hop]; intro c hc; cases hc)]
    simp [execOp, hop, resolve, invoke, builtin, hs, hx, hrun, Result.andThen]
    exact hK v' w' r1 r2
/-- A whole array out of a variable, within a fence. -/
theorem wpListIn_load_row (hgd : o.guard = none) (ty : TypeId) (x : Operand) (ho : o.op = .load ty x) (g : Nat) (hx : a.eval x = .pointer (some ⟨g, 0, none⟩)) (t : TypeId) (cs : Array Value) (fr : Nat × Nat) (d : TypeDesc)
    (hg : w.heap[g]? = some (.cells cs t fr)) (hu : P.underlying ty = some d) (hd : (match d with | .struct _ | .array _ _ => true | _ => false) = true) (hi : (P.info? ty).map (·.size) = some cs.size)
    (h : wpListIn F n P ops Q rest (a.put o.dst (.agg cs)) w) : wpListIn F n P ops Q (o :: rest) a w := by
  exact wpListIn_plain hgd fun _ hK => opIn_load_row ty x ho g hx t cs fr d hg hu hd hi (hK _ _ h)
/-- A whole array into a variable, within a fence. -/
theorem wpListIn_store_row (hgd : o.guard = none) (ty : TypeId) (x y : Operand) (ho : o.op = .store ty x y) (g : Nat) (cells : Array Value) (hx : a.eval x = .pointer (some ⟨g, 0, none⟩)) (hy : a.eval y = .agg cells)
    (t : TypeId) (old : Array Value) (hg : w.heap[g]? = some (.cells old t (0, 0))) (hi : (P.info? ty).map (·.size) = some cells.size) (hold : old.size = cells.size) (h1 : cells.all (·.oneCell') = true)
    (h : wpListIn F n P ops Q rest (a.put o.dst undef) (w.setRow g cells)) : wpListIn F n P ops Q (o :: rest) a w := by
  exact wpListIn_plain hgd fun _ hK => opIn_store_row ty x y ho g cells hx hy t old hg hi hold h1 (hK _ _ h)
end

/-- What survives whatever happens from block B on. -/
def Firm {β : Type} (B : Nat) (J : β → World → Prop) : Prop := ∀ s W W' row, J s W → W.grownBy W' row → (∀ r, row = some r → B ≤ r) → J s W'
theorem Firm.own {β : Type} {B : Nat} {J : β → World → Prop} (h : Firm B J) : OwnFrom B J := fun s W W' row hs hg hr => h s W W' row hs hg (fun r e => (hr r e).1)

/-- An iterator that turns cells of its own between two rounds; the caller always goes on. -/
def SeqState {α : Type} (F : Fence) (n : Nat) (P : Program) (g : Nat) (lb : Array Value) (encs : α → Array Value) (Kp : World → World → Prop) (S : List α → Prop) (N : Nat) (w : World) : Prop :=
  ∀ (l : Nat) (J : List α → World → Prop) (W : World), Below w.heap.size w W → Firm W.heap.size J →
    (∀ pre x W1, J pre W1 → pre.length < N → YieldAt F (n - 1) P l (encs x) W1 fun e W' => e = .returned (.bool true) ∧ J (pre ++ [x]) W' ∧ Kp W1 W') →
    J [] W → CallsIn F n P g (#[.func (.yield l) #[] #[]] ++ lb) W fun e W' => (∃ v, e = .returned v) ∧ ∃ xs, S xs ∧ J xs W'

variable {F : Fence} {n : Nat} {P : Program}

theorem wpIn_rangeFunc_state {α : Type} {g : Operand} {ps : Array Tmp} {assign body : Code} {Q : Exit → Act → World → Prop} {a : Act} {w : World}
    (hro : F.round = none) (h1 : 1 ≤ n) {gf : Nat} {lb : Array Value} (hg : a.eval g = .func (.func gf) #[] lb) (hFg : F.fn gf) (eg : ∀ args w, (callFunc gf args).run P w = .ok (.enter gf args) w)
    {encs : α → Array Value} {Kp : World → World → Prop} {S : List α → Prop} {N : Nat} {w0 : World} (hseq : SeqState F (n - 1) P gf lb encs Kp S N w0)
    (hKt : ∀ {A B C : World}, Kp A B → Kp B C → Kp A C) (hKb : ∀ (W : World) (l : Nat) (o o' : Obj), w.heap.size ≤ l → W.heap[l]? = some o → o.isCells = false → o.isWalk = false → Kp W (W.putObj l o')) (hb0 : Below w0.heap.size w0 w) (hps : ∀ x, (encs x).size = ps.size)
    (I : List α → World → Prop) (hI : Firm w.heap.size I) (h0 : I [] w) (Ax : α → Act → World → Prop) (hAx : ∀ x a', OwnFrom w.heap.size (fun (_ : Unit) W => Ax x a' W))
    (hassign : ∀ (l : Nat) (pre : List α) (x : α) (W : World) (K : Act → World → Prop), I pre W → (∀ a' W', KeepsFrom w.heap.size W W' → Kp W W' → I pre W' → Ax x a' W' → K a' W') →
      assign.wpIn (F.inRound l) (n - 1 - 1) P (Exit.then K (fun _ _ _ => False)) { tmps := (ps.zip (encs x)).foldl (fun t (p, v) => t.setIfInBounds p v) a.tmps, defers := [] } W)
    (hbody : ∀ (l : Nat) (pre : List α) (x : α) (a' : Act) (W : World), I pre W → Ax x a' W → pre.length < N → body.wpIn (F.inRound l) (n - 1 - 1) P (ownPostG w.heap.size Kp I (fun _ _ _ => False) (pre ++ [x]) W) a' W)
    (hdone : ∀ (D : Nat) (xs : List α) (W : World), w.heap.size ≤ D → S xs → I xs W → W.heap[D]? = some (.deferred (some [])) → Q .normal { a with defers := { target := .collected D, args := #[] } :: a.defers } W) :
    (Code.rangeFunc g ps assign body).wpIn F n P Q a w := by
  refine wpIn_rangeFunc (fun fn hfn => ?_)
  rw [hro]
  obtain ⟨rc, hrc⟩ : ∃ rc : LoopState → Option Code → Loop, rc = fun st pe => { state := st, pending := pe, fn, tmps := a.tmps, params := ps, assign, body, defers := w.heap.size } := ⟨_, rfl⟩
  obtain ⟨V, hV⟩ : ∃ V, V = (w.alloc (.deferred (some []))).alloc (.loop (rc .ready none)) := ⟨_, rfl⟩
  have vs : V.heap.size = w.heap.size + 2 := by rw [hV]; simp
  have vl : V.heap[w.heap.size + 1]? = some (.loop (rc .ready none)) := by
    have e := World.alloc_heap_new (w.alloc (.deferred (some []))) (.loop (rc .ready none))
    rw [World.size_alloc] at e; rw [hV]; exact e
  have vd : V.heap[w.heap.size]? = some (.deferred (some [])) := by
    rw [hV]; exact (Below.heap_alloc _ _ _ (by simp)).trans (World.alloc_heap_new w _)
  have vI : I [] V := by rw [hV]; exact hI.own.alloc _ (hI.own.alloc _ h0)
  have vb : Below w0.heap.size w0 V := by
    rw [hV]; exact hb0.trans ((((Below.refl _ w).alloc (Nat.le_refl _) _).alloc (by simp) _).mono hb0.size)
  refine ⟨w.heap.size + 1, [{ target := .collected w.heap.size, args := #[] }], V, { target := .fn (.func gf) lb, args := #[.func (.yield (w.heap.size + 1)) #[] #[]] }, V, gf,
    #[.func (.yield (w.heap.size + 1)) #[] #[]] ++ lb, V, ?_, ?_, ?_, ?_, fun _ => h1, ?_⟩
  · rw [hV, hrc]; exact run_enterLoop_outer _ _ _ _ _
  · simp only [resolve, hg]
    simp [go_sem]
  · intro f' hf'; simp [Target.leads] at hf'; subst hf'; exact hFg
  · simp [invoke, go_sem, eg]
  · have far : ∀ {A B : World} {row : Option Nat} {k : Nat} {o : Obj}, A.grownBy B row → (∀ r, row = some r → V.heap.size ≤ r) → k < w.heap.size + 2 → A.heap[k]? = some o → B.heap[k]? = some o :=
      fun hg' hr hk ho => (hg'.block _ (Array.getElem?_eq_some_iff.1 ho).1 (fun e => by have := hr _ e.symm; omega)).trans ho
    refine (hseq (w.heap.size + 1) (fun pre W => I pre W ∧ W.heap[w.heap.size + 1]? = some (.loop (rc .ready none)) ∧ W.heap[w.heap.size]? = some (.deferred (some []))) V vb
      (fun s A B row hs hg' hr => ⟨hI s A B row hs.1 hg' (fun r e => by have := hr r e; omega), far hg' hr (by omega) hs.2.1, far hg' hr (by omega) hs.2.2⟩) ?_ ⟨vI, vl, vd⟩).mono ?_
    · rintro pre x W ⟨hi, hl, hk⟩ hlen
      have hy := run_yield (P := P) (args := encs x) hl (by rw [hrc]; exact hps x)
      rw [hrc] at hy
      refine ⟨fn, _, assign, body, hy, roundIn_of_wpIn hfn (hassign _ pre x W _ hi ?_)⟩
      clear hy
      intro a' U kf kp ui ua
      have ul := kf.same _ _ (by omega) hl rfl
      have ud := kf.same _ _ (Nat.le_refl _) hk rfl
      have ult : w.heap.size + 1 < U.heap.size := (Array.getElem?_eq_some_iff.1 ul).1
      refine ⟨_, run_beginRound ul (by rw [hrc]), ?_⟩
      obtain ⟨X, hX⟩ : ∃ X, X = U.putObj (w.heap.size + 1) (.loop { rc .ready none with state := .busy }) := ⟨_, rfl⟩
      have xl : X.heap[w.heap.size + 1]? = some (.loop { rc .ready none with state := .busy }) := by rw [hX]; exact World.putObj_heap_same ult
      have xd : X.heap[w.heap.size]? = some (.deferred (some [])) := by rw [hX]; exact (World.putObj_heap_other (by omega)).trans ud
      have xk : Kp U X := by rw [hX]; exact hKb _ _ _ _ (by omega) ul rfl rfl
      have xi : I pre X := by rw [hX]; exact hI.own.putObj _ ui (by omega) ul rfl
      have xa : Ax x a' X := by rw [hX]; exact (hAx x a').putObj (s := ()) _ ua (by omega) ul rfl
      rw [← hX]
      refine wpIn_mono (hbody _ pre x a' X xi xa hlen) ?_
      rintro e a3 Y hp
      cases e with
      | normal =>
        obtain ⟨yf, yk, yi⟩ := hp
        have yl := yf.same _ _ (by omega) xl rfl
        have yd := yf.same _ _ (Nat.le_refl _) xd rfl
        have he := run_endRound (P := P) none yl
        rw [hrc] at he
        refine ⟨_, _, he, rfl, ⟨hI.own.putObj _ yi (by omega) yl rfl, ?_, (World.putObj_heap_other (by omega)).trans yd⟩, hKt kp (hKt (hKt xk yk) (hKb _ _ _ _ (by omega) yl rfl rfl))⟩
        rw [hrc]; exact World.putObj_heap_same (Array.getElem?_eq_some_iff.1 yl).1
      | ret => exact hp.2.elim
      | exit id => exact hp.2.elim
      | goto t => exact hp.2.elim
      | panic ch => exact hp.elim
      | outgrown => exact hp.elim
    · rintro e Y ⟨⟨v, rfl⟩, xs, hS, yi, yl, yd⟩
      have he := run_endLoop (P := P) yl (by rw [hrc]; simp)
      rw [hrc] at he
      exact ⟨none, _, he, hdone _ xs _ (Nat.le_refl _) hS (hI.own.putObj _ yi (by omega) yl rfl) ((World.putObj_heap_other (by omega)).trans yd)⟩
end Go.Proofs.YtihohjgjklcnlaaDoor.Wb
