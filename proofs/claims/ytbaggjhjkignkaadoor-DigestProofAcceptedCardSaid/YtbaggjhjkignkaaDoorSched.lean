/-
  The contract of the package's schedule.
-/
import Derived.Test.YtbaggjhjkignkaaDoorMix
import Derived.StillTailTactics
import Derived.IntWalk
import Derived.WalkSmall
namespace Go.Proofs.YtbaggjhjkignkaaDoor
open Go.RowKit

/-- A block of bytes. -/
def BytesAt (w : World) (b : Nat) (l : List UInt8) : Prop := ∀ i, i < l.length → w.cell? ⟨b, i, none⟩ = some (.int .u8 (wv (bw (l.getD i 0))))
theorem BytesAt.of_heap {w : World} {b : Nat} {l : List UInt8} {t : TypeId} {fr : Nat × Nat} (h : w.heap[b]? = some (.cells (bytesV l).toArray t fr)) : BytesAt w b l := fun i hi => by
  rw [cell_of_row w b i _ t fr h]
  simpa using bytesV_at l i hi

/-- A block that is a row of bytes, as a whole. -/
def BRowAt (w : World) (b : Nat) (t : TypeId) (l : List UInt8) : Prop := w.heap[b]? = some (.cells (bytesV l).toArray t (0, 0))
theorem BRowAt.other {w : World} {b c i : Nat} {t : TypeId} {l : List UInt8} (h : BRowAt w b t l) (v : Value) (hn : b ≠ c) : BRowAt (w.setCell ⟨c, i, none⟩ v) b t l := by
  unfold BRowAt
  rw [heap_setCell_other _ _ _ _ hn]; exact h
theorem BRowAt.bytes {w : World} {b : Nat} {t : TypeId} {l : List UInt8} (h : BRowAt w b t l) : BytesAt w b l := BytesAt.of_heap h
/-- The words so far, and zeros. -/
def filled (ws : List Wd) : List Wd := ws ++ List.replicate (64 - ws.length) 0
theorem filled_set (ws : List Wd) (x : Wd) (h : ws.length < 64) : (filled ws).set ws.length x = filled (ws ++ [x]) := by
  unfold filled
  obtain ⟨m, hm⟩ : ∃ m, 64 - ws.length = m + 1 := ⟨63 - ws.length, by omega⟩
  rw [List.set_append_right _ _ (Nat.le_refl _), Nat.sub_self, hm, List.replicate_succ, List.set_cons_zero, List.length_append, List.length_singleton, List.append_assoc,
    show 64 - (ws.length + 1) = m by omega]
  rfl
theorem filled_at (ws : List Wd) (i : Nat) (h : i < ws.length) : (filled ws).getD i 0 = ws.getD i 0 := by
  unfold filled
  rw [List.getD, List.getD, List.getElem?_append_left h]
theorem filled_length (ws : List Wd) (h : ws.length ≤ 64) : (filled ws).length = 64 := by
  unfold filled; rw [List.length_append, List.length_replicate]; omega
theorem filled_all (ws : List Wd) (h : ws.length = 64) : filled ws = ws := by
  unfold filled; rw [h]; exact List.append_nil _
theorem RowAt.cell {w : World} {b : Nat} {t : TypeId} {ws : List Wd} (h : RowAt w b t (filled ws)) (i : Nat) (hi : i < ws.length) (hl : ws.length ≤ 64) : w.cell? ⟨b, i, none⟩ = some (.int .u32 (wv (ws.getD i 0))) := by
  have hf := filled_length ws hl
  rw [cell_of_row w b i _ t _ h, ← filled_at ws i hi]
  simpa using wordsV_at (filled ws) i (by omega)
theorem RowAt.frozen {w : World} {b : Nat} {t : TypeId} {ws : List Wd} (h : RowAt w b t ws) (i : Nat) : w.frozen? ⟨b, i, none⟩ = false := frozen_of_row w b i _ t h

theorem filled_nil : (wordsV (filled [])).toArray = #[.int .u32 0, .int .u32 0, .int .u32 0, .int .u32 0, .int .u32 0, .int .u32 0, .int .u32 0, .int .u32 0, .int .u32 0, .int .u32 0, .int .u32 0, .int .u32 0, .int .u32 0, .int .u32 0, .int .u32 0, .int .u32 0, .int .u32 0, .int .u32 0, .int .u32 0, .int .u32 0, .int .u32 0, .int .u32 0, .int .u32 0, .int .u32 0, .int .u32 0, .int .u32 0, .int .u32 0, .int .u32 0, .int .u32 0, .int .u32 0, .int .u32 0, .int .u32 0, .int .u32 0, .int .u32 0, .int .u32 0, .int .u32 0, .int .u32 0, .int .u32 0, .int .u32 0, .int .u32 0, .int .u32 0, .int .u32 0, .int .u32 0, .int .u32 0, .int .u32 0, .int .u32 0, .int .u32 0, .int .u32 0, .int .u32 0, .int .u32 0, .int .u32 0, .int .u32 0, .int .u32 0, .int .u32 0, .int .u32 0, .int .u32 0, .int .u32 0, .int .u32 0, .int .u32 0, .int .u32 0, .int .u32 0, .int .u32 0, .int .u32 0, .int .u32 0] := rfl

theorem RowAt.some {w : World} {b : Nat} {t : TypeId} {ws : List Wd} (h : RowAt w b t ws) (i : Nat) (hi : i < ws.length) : ∃ v, w.cell? ⟨b, i, none⟩ = some v :=
  ⟨_, by rw [cell_of_row w b i _ t _ h]; simpa using wordsV_at ws i hi⟩
set_option maxRecDepth 100000 in
set_option maxHeartbeats 2000000 in
theorem schedule_any (p : List UInt8) (hl : p.length = 64) (w : World) :
    Calls Tryd.prog 45 #[.agg (bytesV p).toArray] w fun e w' => e = .returned (.agg (wordsV (Sha.sched p)).toArray) ∧ Below w.heap.size w w' := by
  go_enter Tryd.func45, Tryd.ntmps45
  go_wp2_with fail
  rw [← filled_nil]
  obtain ⟨W0, hW⟩ : ∃ W, W = ((w.alloc (.cells (bytesV p).toArray 62)).alloc (.cells (wordsV (filled [])).toArray 64)).alloc (.cells (wordsV (filled [])).toArray 64) := ⟨_, rfl⟩
  rw [← hW]
  have hB : Below w.heap.size w W0 := by rw [hW]; exact (((Below.refl _ w).alloc (Nat.le_refl _) _).alloc (by simp) _).alloc (by simp; omega) _
  have hp : BRowAt W0 w.heap.size 62 p := (by unfold BRowAt; rw [hW, heap_alloc_old _ _ (by simp; omega), heap_alloc_old _ _ (by simp)]; exact heap_alloc_new _ _)
  have h1 : RowAt W0 (w.heap.size + 1) 64 (filled []) := by unfold RowAt; rw [hW, heap_alloc_old _ _ (by simp)]; exact heap_alloc2_new _ _ _
  have h2 : RowAt W0 (w.heap.size + 1 + 1) 64 (filled []) := by
    unfold RowAt
    rw [hW, show w.heap.size + 1 + 1 = ((w.alloc (.cells (bytesV p).toArray 62)).alloc (.cells (wordsV (filled [])).toArray 64)).heap.size by simp]
    exact heap_alloc_new _ _
  have HL := Lib.hid hl
  clear hW hl
  go_loopw [8] (fun i wr => ∃ k : Nat, k ≤ 16 ∧ i = .int .i64 k ∧ BRowAt wr w.heap.size 62 p ∧ RowAt wr (w.heap.size + 1) 64 (filled []) ∧ RowAt wr (w.heap.size + 1 + 1) 64 (filled (Sha.firstW p k)) ∧ Below w.heap.size w wr) (fun i _ => 16 - (intOf i).toNat)
  case atStart => exact ⟨0, by omega, rfl, hp, h1, h2, hB⟩
  case round =>
    clear hp h1 h2 hB
    obtain ⟨k, hk, rfl, hp, h1, h2, hB⟩ := hrel
    by_cases hk16 : k < 16
    · as_aux_lemma =>
      have hl := HL.out
      have c0 := hp.bytes (4 * k) (by omega)
      have c1 := hp.bytes (4 * k + 1) (by omega)
      have c2 := hp.bytes (4 * k + 2) (by omega)
      have c3 := hp.bytes (4 * k + 3) (by omega)
      have hf := h2.frozen k
      obtain ⟨ov, ho⟩ := h2.some k (by rw [filled_length _ (by rw [Sha.firstW_length]; omega)]; omega)
      have hlen := Sha.firstW_length p k
      have h2' := h2.set k (Sha.be p (4 * k))
      have hst := filled_set (Sha.firstW p k) (Sha.be p (4 * k)) (by omega)
      rw [hlen] at hst
      rw [hst] at h2'
      have hp' := hp.other (c := w.heap.size + 1 + 1) (i := k) (.int .u32 (wv (Sha.be p (4 * k)))) (by omega)
      have h1' := h1.other (c := w.heap.size + 1 + 1) (i := k) (.int .u32 (wv (Sha.be p (4 * k)))) (by omega)
      have hB' := hB.setCell (p := ⟨w.heap.size + 1 + 1, k, none⟩) (by simp; omega) (.int .u32 (wv (Sha.be p (4 * k))))
      have HX := Lib.hid (And.intro (And.intro hp' h1') (And.intro h2' hB'))
      clear hl hlen hst h2' hp h1 h2 hB hp' h1' hB'
      obtain ⟨x0, e0⟩ : ∃ x, x = p.getD (4 * k) 0 := ⟨_, rfl⟩
      obtain ⟨x1, e1⟩ : ∃ x, x = p.getD (4 * k + 1) 0 := ⟨_, rfl⟩
      obtain ⟨x2, e2⟩ : ∃ x, x = p.getD (4 * k + 2) 0 := ⟨_, rfl⟩
      obtain ⟨x3, e3⟩ : ∃ x, x = p.getD (4 * k + 3) 0 := ⟨_, rfl⟩
      rw [← e0] at c0
      rw [← e1] at c1
      rw [← e2] at c2
      rw [← e3] at c3
      have HE := Lib.hid (And.intro (And.intro e0 e1) (And.intro e2 e3))
      clear e0 e1 e2 e3
      obtain ⟨m, hm⟩ : ∃ m, 4 * k = m := ⟨_, rfl⟩
      rw [hm] at c0 c1 c2 c3
      have hm0 : m ≤ 60 := by omega
      have w0 : IntKind.i64.wrap (4 * (k : Int)) = (m : Int) := by rw [IntWalk.i64_in _ ⟨by omega, by omega⟩]; omega
      have w1 : IntKind.i64.wrap ((m : Int) + 1) = (m : Int) + 1 := IntWalk.i64_in _ ⟨by omega, by omega⟩
      have w2 : IntKind.i64.wrap ((m : Int) + 2) = (m : Int) + 2 := IntWalk.i64_in _ ⟨by omega, by omega⟩
      have w3 : IntKind.i64.wrap ((m : Int) + 3) = (m : Int) + 3 := IntWalk.i64_in _ ⟨by omega, by omega⟩
      have t1 : ((m : Int) + 1).toNat = m + 1 := by omega
      have t2 : ((m : Int) + 2).toNat = m + 2 := by omega
      have t3 : ((m : Int) + 3).toNat = m + 3 := by omega
      have l0 : (m : Int) < 64 := by omega
      have l1 : (m : Int) + 1 < 64 := by omega
      have l2 : (m : Int) + 2 < 64 := by omega
      have l3 : (m : Int) + 3 < 64 := by omega
      have n1 : 0 ≤ (m : Int) + 1 := by omega
      have n2 : 0 ≤ (m : Int) + 2 := by omega
      have n3 : 0 ≤ (m : Int) + 3 := by omega
      have b0 := wv_bw_lt x0
      have b1 := wv_bw_lt x1
      have b2 := wv_bw_lt x2
      have b3 := wv_bw_lt x3
      have z0 := wv_nonneg (bw x0)
      have z1 := wv_nonneg (bw x1)
      have z2 := wv_nonneg (bw x2)
      have z3 := wv_nonneg (bw x3)
      have hk0 : (k : Int) < 16 := by omega
      have hk1 : (k : Int) < 64 := by omega
      have HM := Lib.hid hm
      clear hm
      have g0 := wv_wrap (bw x0)
      have g1 := wv_wrap (bw x1)
      have g2 := wv_wrap (bw x2)
      have g3 := wv_wrap (bw x3)
      have g4 := wv_shlk (bw x0) 24 16777216 rfl
      have g5 := wv_shlk (bw x1) 16 65536 rfl
      have g6 := wv_shlk (bw x2) 8 256 rfl
      have g7 := wv_or (bw x0 <<< 24) (bw x1 <<< 16)
      have g8 := wv_or (bw x0 <<< 24 ||| bw x1 <<< 16) (bw x2 <<< 8)
      have g9 := wv_or (bw x0 <<< 24 ||| bw x1 <<< 16 ||| bw x2 <<< 8) (bw x3)
      go_wp2_with fail
      go_still_tail 31, (by kernel_rfl)
      change wpList _ _ _ _ _ wr.drew
      go_wp2_with fail
      go_roundw
      case rel =>
        have hbe : Sha.be p (4 * k) = bw x0 <<< 24 ||| bw x1 <<< 16 ||| bw x2 <<< 8 ||| bw x3 := by rw [HE.out.1.1, HE.out.1.2, HE.out.2.1, HE.out.2.2]; rfl
        rw [hbe] at HX
        exact ⟨k + 1, by omega, by go_num, HX.out.1.1, HX.out.1.2, by rw [Sha.firstW, hbe]; exact HX.out.2.1, HX.out.2.2.drew⟩
      case measure => simp [intOf]; omega
    · have hke : k = 16 := by omega
      rw [hke] at h2
      have hd16 : decide ((k : Int) < 16) = false := by simp; omega
      clear hk16 hk hke
      go_wp2_with fail
      clear hd16
      obtain ⟨W1, hW1⟩ : ∃ W, W = wr := ⟨_, rfl⟩
      rw [← hW1] at hp h1 h2 hB ⊢
      clear hW1
      go_loopw [5] (fun i wr => ∃ k : Nat, 16 ≤ k ∧ k ≤ 64 ∧ i = .int .i64 k ∧ RowAt wr (w.heap.size + 1) 64 (filled []) ∧ RowAt wr (w.heap.size + 1 + 1) 64 (filled (Sha.moreW (k - 16) (Sha.firstW p 16))) ∧ Below w.heap.size w wr) (fun i _ => 64 - (intOf i).toNat)
      case atStart => exact ⟨16, by omega, by omega, rfl, h1, h2, hB⟩
      case round =>
        clear hp h1 h2 hB
        obtain ⟨k, hk0, hk, rfl, h1, h2, hB⟩ := hrel
        by_cases hk64 : k < 64
        · as_aux_lemma =>
          have hn : Sha.moreW (k + 1 - 16) (Sha.firstW p 16) = Sha.moreW (k - 16) (Sha.firstW p 16) ++ [Sha.nextW (Sha.moreW (k - 16) (Sha.firstW p 16))] := by
            rw [show k + 1 - 16 = (k - 16) + 1 by omega]; rfl
          have hlen : (Sha.moreW (k - 16) (Sha.firstW p 16)).length = k := by rw [Sha.moreW_length, Sha.firstW_length]; omega
          generalize Sha.moreW (k - 16) (Sha.firstW p 16) = ws at *
          have c15 := h2.cell (k - 15) (by omega) (by omega)
          have c2 := h2.cell (k - 2) (by omega) (by omega)
          have c16 := h2.cell (k - 16) (by omega) (by omega)
          have c7 := h2.cell (k - 7) (by omega) (by omega)
          have hnx : Sha.nextW ws = ws.getD (k - 16) 0 + Sha.s0 (ws.getD (k - 15) 0) + ws.getD (k - 7) 0 + Sha.s1 (ws.getD (k - 2) 0) := by unfold Sha.nextW; rw [hlen]
          have hst := filled_set ws (Sha.nextW ws) (by omega)
          rw [hlen, ← hn, hnx] at hst
          have HST := Lib.hid hst
          have HLN := Lib.hid hlen
          have H2 := Lib.hid h2
          have H1 := Lib.hid (And.intro h1 hB)
          clear hn hlen hnx hst h1 h2 hB
          generalize ws.getD (k - 15) 0 = a15 at *
          generalize ws.getD (k - 2) 0 = a2 at *
          generalize ws.getD (k - 16) 0 = a16 at *
          generalize ws.getD (k - 7) 0 = a7 at *
          have w15 : IntKind.i64.wrap ((k : Int) - 15) = ((k - 15 : Nat) : Int) := by rw [IntWalk.i64_in _ ⟨by omega, by omega⟩]; omega
          have w2 : IntKind.i64.wrap ((k : Int) - 2) = ((k - 2 : Nat) : Int) := by rw [IntWalk.i64_in _ ⟨by omega, by omega⟩]; omega
          have w16 : IntKind.i64.wrap ((k : Int) - 16) = ((k - 16 : Nat) : Int) := by rw [IntWalk.i64_in _ ⟨by omega, by omega⟩]; omega
          have w7 : IntKind.i64.wrap ((k : Int) - 7) = ((k - 7 : Nat) : Int) := by rw [IntWalk.i64_in _ ⟨by omega, by omega⟩]; omega
          have l15 : ((k - 15 : Nat) : Int) < 64 := by omega
          have l2 : ((k - 2 : Nat) : Int) < 64 := by omega
          have l16 : ((k - 16 : Nat) : Int) < 64 := by omega
          have l7 : ((k - 7 : Nat) : Int) < 64 := by omega
          have hkl : (k : Int) < 64 := by omega
          generalize k - 15 = m15 at *
          generalize k - 2 = m2 at *
          generalize k - 16 = m16 at *
          generalize k - 7 = m7 at *
          have g1 := wv_xor (rotW a15 7) (rotW a15 18)
          have g2 := wv_shrk a15 3 8 rfl
          have g3 : bits .xor .u32 (wv (rotW a15 7 ^^^ rotW a15 18)) (wv (a15 >>> 3)) = wv (Sha.s0 a15) := wv_xor _ _
          have g4 := wv_xor (rotW a2 17) (rotW a2 19)
          have g5 := wv_shrk a2 10 1024 rfl
          have g6 : bits .xor .u32 (wv (rotW a2 17 ^^^ rotW a2 19)) (wv (a2 >>> 10)) = wv (Sha.s1 a2) := wv_xor _ _
          have g7 := wv_add' a16 (Sha.s0 a15)
          have g8 := wv_add' (a16 + Sha.s0 a15) a7
          have g9 := wv_add' (a16 + Sha.s0 a15 + a7) (Sha.s1 a2)
          go_wp2_with fail
          go_quiet ((go_at_call 55; exact rotate_q _ _ _ _ (by decide) (by decide)))
          go_wp2_with fail
          go_quiet ((go_at_call 55; exact rotate_q2 _ _ _ _ _ (by decide) (by decide)))
          go_wp2_with fail
          generalize hw9 : (wr.drewN _).drewN _ = w9
          have c16' : w9.cell? ⟨w.heap.size + 1 + 1, m16, none⟩ = some (.int .u32 (wv a16)) := by rw [← hw9]; exact c16
          have c7' : w9.cell? ⟨w.heap.size + 1 + 1, m7, none⟩ = some (.int .u32 (wv a7)) := by rw [← hw9]; exact c7
          have h2 : RowAt w9 (w.heap.size + 1 + 1) 64 (filled ws) := by rw [← hw9]; exact H2.out
          have h1 : RowAt w9 (w.heap.size + 1) 64 (filled []) := by rw [← hw9]; exact H1.out.1
          have hB : Below w.heap.size w w9 := by rw [← hw9]; exact below_drewN (below_drewN H1.out.2 _) _
          have hf := h2.frozen k
          obtain ⟨ov, ho⟩ := h2.some k (by rw [filled_length _ (by rw [HLN.out]; omega)]; omega)
          have h2' := h2.set k (a16 + Sha.s0 a15 + a7 + Sha.s1 a2)
          rw [HST.out] at h2'
          have h1' := h1.other (c := w.heap.size + 1 + 1) (i := k) (.int .u32 (wv (a16 + Sha.s0 a15 + a7 + Sha.s1 a2))) (by omega)
          have hB' := hB.setCell (p := ⟨w.heap.size + 1 + 1, k, none⟩) (by simp; omega) (.int .u32 (wv (a16 + Sha.s0 a15 + a7 + Sha.s1 a2)))
          have HX := Lib.hid (And.intro h1' (And.intro h2' hB'))
          clear hw9 h2 h1 hB h2' h1' hB' c16 c7 c15 c2
          go_still_tail 15, (by kernel_rfl)
          change wpList _ _ _ _ _ w9.drew
          go_wp2_with fail
          go_roundw
          case rel => exact ⟨k + 1, by omega, by omega, by go_num, HX.out.1, HX.out.2.1, HX.out.2.2.drew⟩
          case measure => simp [intOf]; omega
        · as_aux_lemma =>
          obtain rfl : k = 64 := by omega
          have hlen : (Sha.moreW (64 - 16) (Sha.firstW p 16)).length = 64 := by rw [Sha.moreW_length, Sha.firstW_length]
          have h2' : RowAt wr (w.heap.size + 1 + 1) 64 (Sha.sched p) := by
            have := h2
            rw [filled_all _ hlen] at this
            exact this
          have hui : (Tryd.prog.info? 64).map (·.size) = some (wordsV (Sha.sched p)).toArray.size := by
            rw [List.size_toArray, wordsV_length, Sha.sched_length]; kernel_rfl
          have hold : (wordsV (filled [])).toArray.size = (wordsV (Sha.sched p)).toArray.size := by
            rw [List.size_toArray, wordsV_length, List.size_toArray, wordsV_length, Sha.sched_length]; rfl
          have HP := Lib.hid (And.intro h2' (And.intro h1 hB))
          have HO := Lib.hid (And.intro hui hold)
          have hk8' : decide (((64 : Nat) : Int) < 64) = false := by decide
          clear h2 h2' h1 hB hlen hui hold
          go_wp2_with (first
            | (refine wpList_load_row rfl 64 (.tmp 3) rfl (w.heap.size + 1 + 1) rfl 64 _ (0, 0) _ HP.out.1 Tryd.underlying64 rfl HO.out.1 ?_)
            | (refine wpList_store_row rfl 64 (.tmp 2) (.tmp 96) rfl (w.heap.size + 1) (wordsV (Sha.sched p)).toArray rfl rfl 64 _ HP.out.2.1 HO.out.1 HO.out.2 (wordsV_one _) ?_))
          have hrow : ((wr.setRow (w.heap.size + 1) (wordsV (Sha.sched p)).toArray).heap[w.heap.size + 1]?) = some (.cells (wordsV (Sha.sched p)).toArray 64 (0, 0)) := setRow_heap wr _ _ _ _ _ HP.out.2.1
          refine bodyPost_ret (results_cell_row rfl _ _ (w.heap.size + 1) 64 _ (0, 0) _ rfl hrow Tryd.underlying64 rfl HO.out.1) rfl ?_
          exact ⟨rfl, below_setRow HP.out.2.2 (by omega) _⟩
end Go.Proofs.YtbaggjhjkignkaaDoor

