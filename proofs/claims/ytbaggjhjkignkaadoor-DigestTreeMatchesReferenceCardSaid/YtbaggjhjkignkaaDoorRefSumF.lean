/-
  The reference's Sum: SHA-256 of a string of at most 2000 bytes.
-/
import Derived.Test.YtbaggjhjkignkaaDoorRefBlk
import Derived.Test.YtbaggjhjkignkaaDoorRefExt
import Derived.Test.YtbaggjhjkignkaaDoorRefT
import Derived.Test.YtbaggjhjkignkaaDoorSumOf
import Derived.Test.YtbaggjhjkignkaaDoorSums
namespace Go.Proofs.YtbaggjhjkignkaaDoor
open Go.RowKit Tree

theorem BOwn.open {w : World} {base n : Nat} {v : Value} {l : List UInt8} (h : w.ownsRow base 5 1 v n (bytesV l)) (_ : l.length = n) (hl : 0 < n) : ∃ g cap, v = .slice (some ⟨g, 0, none⟩) n cap ∧ base ≤ g ∧ g < w.heap.size ∧ n ≤ cap ∧ cap ≤ maxLen ∧ PartAt w g 0 l := by
  obtain ⟨h1, ⟨rfl, h2⟩ | ⟨g, cap, cur, rfl, h2, h3, h4, h5, h6, h7⟩⟩ := h
  · omega
  · have hrow : w.ownsRow base 5 1 (.slice (some ⟨g, 0, none⟩) n cap) n (bytesV l) := ⟨h1, .inr ⟨g, cap, cur, rfl, h2, h3, h4, h5, h6, h7⟩⟩
    refine ⟨g, cap, rfl, h2, (Array.getElem?_eq_some_iff.1 h3).1, h4, h5, fun i hi => ?_⟩
    have := hrow.cells (g := g) rfl i _ (bytesV_at l i hi)
    rwa [show (⟨g, 0, none⟩ : Addr).add i = ⟨g, 0 + i, none⟩ by cases i <;> simp [Addr.add]] at this

theorem out_wrap (y : Wd) : IntKind.u8.wrap (wv y) = wv (bw (ob y)) := by rw [IntKind.wrap_u8]; exact out_byte y
theorem PartAt.blk {w : World} {g : Nat} {p : List UInt8} (h : PartAt w g 0 p) (j : Nat) (hj : 64 * j + 64 ≤ p.length) : PartAt w g (64 * j) (Sha.blk p j) := fun i hi => by
  have hl : (Sha.blk p j).length = 64 := by unfold Sha.blk; rw [List.length_take, List.length_drop]; omega
  have := h (64 * j + i) (by omega)
  rw [show 0 + (64 * j + i) = 64 * j + i by omega] at this
  rw [this]
  unfold Sha.blk
  rw [List.getD, List.getD, List.getElem?_take_of_lt (by omega), List.getElem?_drop]
/-- What stays while the blocks are taken: the eight words, the padded bytes. -/
structure SumAt (w wr : World) (g gp : Nat) (p : List UInt8) (st : Sha.St) : Prop where
  cv : WordsAt wr g st.list
  hv : g < wr.heap.size
  cp : PartAt wr gp 0 p
  hp : gp < wr.heap.size
  bel : Below w.heap.size w wr

set_option maxRecDepth 100000 in
set_option maxHeartbeats 4000000 in
theorem refSum_any (s : ByteArray) (w : World) (hs : s.size ≤ 2000) : Calls Tryd.prog 8 #[.string s] w (StrEnd (Sha.shaS s) w) := by
  obtain ⟨i0, hi0, hz0, hz1, hz2⟩ := info_parts info_u8
  have hE := fun w => refExt_any s w hs
  have hpw := Sha.pad_whole s.data.toList
  have hpl : (Sha.pad s.data.toList).length ≤ 2100 := by
    rw [Sha.pad_length]; have : s.data.toList.length = s.size := by simp
    unfold Sha.padZ; omega
  have hSS : Sha.shaS s = ⟨(Sha.outB (Sha.after (Sha.pad s.data.toList) ((Sha.pad s.data.toList).length / 64))).toArray⟩ := rfl
  have h9 : 0 < (Sha.pad s.data.toList).length := by rw [Sha.pad_length]; omega
  have hini : (wordsV Sha.init.list) = [.int .u32 1779033703, .int .u32 3144134277, .int .u32 1013904242, .int .u32 2773480762, .int .u32 1359893119, .int .u32 2600822924, .int .u32 528734635, .int .u32 1541459225] := rfl
  have HIN := Lib.hid hini
  generalize Sha.pad s.data.toList = p at *
  obtain ⟨m, hm⟩ : ∃ m, p.length / 64 = m := ⟨_, rfl⟩
  rw [hm] at hSS hpw
  have HSS := Lib.hid hSS
  have HE := Lib.hid hE
  clear hE hSS hini hm
  go_enter Tryd.func8, Tryd.ntmps8
  go_wp2_with fail
  refine (HE.out _).mono ?_
  rintro e w1 ⟨⟨v, rfl, hown⟩, hb1⟩
  obtain ⟨gp, cp, rfl, hg1, hg2, hg3, hg4, hpc⟩ := BOwn.open hown rfl h9
  unfold maxLen at hg4
  have hw8 : WordsAt (w.alloc (.cells #[.int .u32 1779033703, .int .u32 3144134277, .int .u32 1013904242, .int .u32 2773480762, .int .u32 1359893119, .int .u32 2600822924, .int .u32 528734635, .int .u32 1541459225] 39)) w.heap.size Sha.init.list := by
    refine WordsAt.of_heap (t := 39) (fr := (0, 0)) ?_
    rw [HIN.out]; exact heap_alloc_new _ _
  have HS := Lib.hid (show SumAt w w1 w.heap.size gp p (Sha.after p 0) from ⟨hw8.below hb1 (by simp), Nat.lt_of_lt_of_le (by simp) hb1.size, hpc, hg2, ((Below.refl _ _).alloc (Nat.le_refl _) _).trans (hb1.mono (by simp))⟩)
  have HPL := Lib.hid hpw
  clear hown hb1 hg1 hg2 hpc hw8 HE HIN hpw
  go_wp2_with fail
  go_loopw [3, 5] (fun v i wr => ∃ q : Nat, i = .int .i64 q ∧ ∃ g cap, v = .slice (some ⟨g, 0, none⟩) 8 cap ∧ Hid (∃ j, q = 64 * j ∧ j ≤ m ∧ SumAt w wr g gp p (Sha.after p j))) (fun _ i _ => p.length - (intOf i).toNat)
  case atStart => exact ⟨0, rfl, _, _, rfl, Lib.hid ⟨0, rfl, by omega, HS.out⟩⟩
  case round =>
    clear HS
    obtain ⟨q, rfl, g, cap, rfl, HR⟩ := hrel
    by_cases hq : q < p.length
    · as_aux_lemma =>
      obtain ⟨j, hqj, hjm, hS⟩ := HR.out
      have hj1 : 64 * j + 64 ≤ p.length := by have := HPL.out; omega
      have hbl : (Sha.blk p j).length = 64 := by unfold Sha.blk; rw [List.length_take, List.length_drop]; omega
      have hc := refBlock_any g cap gp q (cp - q) (Sha.blk p j) (Sha.after p j) wr hbl hS.hv hS.cv hS.hp (by rw [hqj]; exact hS.cp.blk j hj1)
      have HC := Lib.hid hc
      have HS := Lib.hid hS
      have HJ := Lib.hid (And.intro hqj (And.intro hjm hj1))
      have q1 : (q : Int) < (p.length : Int) := by omega
      have q2 : (q : Int) + 64 ≤ (p.length : Int) := by omega
      have q3 : (q : Int) + 64 ≤ (cp : Int) := by omega
      have q4 : (q : Int) ≤ (q : Int) + 64 := by omega
      have q5 : 0 ≤ (q : Int) := by omega
      clear hc hS hqj hjm hj1 hbl HR
      go_wp2_with fail
      refine HC.out.mono ?_
      rintro e w2 ⟨⟨v, rfl, ho⟩, hb2⟩
      obtain ⟨g2, c2, rfl, hga, hgb, hgc⟩ := WOwn.open ho (by show 0 < 8; omega)
      have H2 := Lib.hid (show SumAt w w2 g2 gp p (Sha.after p (j + 1)) from ⟨hgc, hgb, HS.out.cp.below hb2 HS.out.hp, Nat.lt_of_lt_of_le HS.out.hp hb2.size, below_step' HS.out.bel hb2⟩)
      clear ho hb2 hga hgb hgc HC HS
      go_wp2_with fail
      go_roundw
      case rel => exact ⟨q + 64, by go_num, _, _, rfl, Lib.hid ⟨j + 1, by have := HJ.out; omega, by have := HJ.out; have := HPL.out; omega, H2.out⟩⟩
      case measure => simp [intOf]; omega
    · as_aux_lemma =>
      have hqd : decide (q < p.length) = false := by simp; omega
      obtain ⟨j, hqj, hjm, hS⟩ := HR.out
      obtain rfl : j = m := by have := HPL.out; omega
      have HS := Lib.hid hS
      clear HR hqj hjm hS hq HPL
      generalize Sha.after p j = R at *
      go_wp2_with fail
      obtain ⟨W0, hW0⟩ : ∃ W, W = wr := ⟨_, rfl⟩
      rw [← hW0] at HS ⊢
      clear hW0 hqd
      go_loopw [6, 7] (fun v i wr => ∃ k : Nat, k ≤ 8 ∧ i = .int .i64 k ∧ wr.ownsRow W0.heap.size 5 1 v (4 * k) (bytesV ((Sha.outB R).take (4 * k))) ∧ Below W0.heap.size W0 wr) (fun _ i _ => 8 - (intOf i).toNat)
      case atStart => exact ⟨0, by omega, rfl, World.ownsRow_nil _ _ _ _, Below.refl _ _⟩
      case round =>
        obtain ⟨k, hk, rfl, hown, hB⟩ := hrel
        by_cases hk8 : k < 8
        · as_aux_lemma =>
          obtain ⟨y, hy⟩ : ∃ y, y = R.list.getD k 0 := ⟨_, rfl⟩
          have htk : (Sha.outB R).take (4 * (k + 1)) = (Sha.outB R).take (4 * k) ++ Sha.beBytes y := by
            rw [hy]
            match k, hk8 with
            | 0, _ => rfl
            | 1, _ => rfl
            | 2, _ => rfl
            | 3, _ => rfl
            | 4, _ => rfl
            | 5, _ => rfl
            | 6, _ => rfl
            | 7, _ => rfl
          have q1 : wr.cell? ⟨g, k, none⟩ = some (.int .u32 (wv y)) := by rw [hy]; exact (HS.out.cv.below hB HS.out.hv) k hk8
          have hg0 := HS.out.hv
          have hlt := fun k e => (hown.lt k e).1
          have hap : u6.ownBlock ≠ some g := fun e => by have := hlt g e; omega
          have hBs := hB.size
          have HTK := Lib.hid htk
          clear htk hy
          generalize (Sha.outB R).take (4 * k) = l at *
          have hk0 : (k : Int) < 8 := by omega
          have s1 := wv_shrk y 24 16777216 rfl
          have s2 := wv_shrk y 16 65536 rfl
          have s3 := wv_shrk y 8 256 rfl
          have o1 := out_wrap (y >>> 24)
          have o2 := out_wrap (y >>> 16)
          have o3 := out_wrap (y >>> 8)
          have o4 := out_wrap y
          have m1 := out_byte (y >>> 24)
          have m2 := out_byte (y >>> 16)
          have m3 := out_byte (y >>> 8)
          have m4 := out_byte y
          go_wp2_with fail
          go_region_held3 (fun w' => w'.cell? ⟨g, k, none⟩ = some (.int .u32 (wv y)))
            (first | (rw [hgrow.cell_far _ (by simp; omega) (Ne.symm hap)]; assumption) | assumption | go_keep)
            ((refine step_append_lies _ (by rfl) _ _ _ (by rfl) W0.heap.size 5 i0 _ 1 1 Tryd.underlying41 hi0 hz0 hz1 hz2 rfl (by omega) u6 (4 * k) (bytesV l) (by rfl) ((hown.alloc _).drew)
                ⟨wr.heap.size, 0, none⟩ 4 4 [.int .u8 (wv (bw (ob (y >>> 24)))), .int .u8 (wv (bw (ob (y >>> 16)))), .int .u8 (wv (bw (ob (y >>> 8)))), .int .u8 (wv (bw (ob y)))] (by rfl) (by rfl) (World.news_of_block (cs := #[.int .u8 (wv (bw (ob (y >>> 24)))), .int .u8 (wv (bw (ob (y >>> 16)))), .int .u8 (wv (bw (ob (y >>> 8)))), .int .u8 (wv (bw (ob y)))]) (t := 5) (fr := (0, 0)) (heap_alloc_new wr _)) (by simp [Value.oneCell'])
                (by omega) (by unfold maxLen; omega) (by omega) (by simp; omega) (wr.heap.size + 1) (by simp) ?_; intro gg cap w2 hown2 hgrow hat hlt2))
          have hb2 : Below W0.heap.size W0 w2 := ((hB.alloc hBs _).drew).grown hgrow (by simp; omega) hlt
          have ho6 : w2.ownsRow W0.heap.size 5 1 (.slice (some ⟨gg, 0, none⟩) (4 * (k + 1)) cap) (4 * (k + 1)) (bytesV ((Sha.outB R).take (4 * (k + 1)))) := by
            rw [HTK.out]; unfold bytesV at hown2 ⊢; rw [List.map_append]; exact hown2
          have HO := Lib.hid (And.intro ho6 hb2)
          clear hown2 hgrow hat hb2 ho6
          go_wp2_with fail
          go_roundw
          case rel => exact ⟨k + 1, by omega, by go_num, HO.out.1, HO.out.2⟩
          case measure => simp [intOf]; omega
        · as_aux_lemma =>
          have hd8 : decide ((k : Int) < 8) = false := by simp; omega
          have hown8 : wr.ownsRow W0.heap.size 5 1 u6 32 (bytesV (Sha.outB R)) := by
            have := hown; rw [show k = 8 by omega] at this; exact this
          obtain ⟨g8, cap8, rfl, hconv⟩ := row_text hown8 (Sha.outB_length R) (by omega)
          have HO := Lib.hid (below_step' HS.out.bel hB)
          clear hown hown8 hB hk hk8
          go_wp2_with fail
          go_ret
          rw [HSS.out]
          exact ⟨rfl, HO.out⟩
theorem refSum_is : RefSum := ⟨fun s w hs => refSum_any s w hs⟩
end Go.Proofs.YtbaggjhjkignkaaDoor

