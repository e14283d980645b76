/-
  What the texts of layer 2's reference take from its Root.
  The reference's small functions: Left; rotated.
  The reference's Leaf, Node and Chain, under the contract of its Sum.
  The reference's extended: the padded string's bytes.
  The reference's constants: a row of the 64 words.
  The reference's block: what a block makes of the eight words.
  The reference's Sum: SHA-256 of a string of at most 2000 bytes.
-/
import Derived.Test.YtihohjgjklcnlaaDoorQBr
import Derived.Test.YtihohjgjklcnlaaDoorQBq
import Derived.Test.YtihohjgjklcnlaaDoorQBo1
import Derived.RangeFuncBox
import Derived.Test.YtihohjgjklcnlaaDoorQBp
import Derived.Deep.AppendLies
import Derived.Deep.RegionHeld3
import Derived.StillTailTactics
import Derived.Great.BuildSlice
namespace Go.Proofs.YtihohjgjklcnlaaDoor.Wb
open Go.RowKit
def StrEnd (s : ByteArray) (w : World) (e : Ending) (w' : World) : Prop := e = .returned (.string s) ∧ Below w.heap.size w w'
end Go.Proofs.YtihohjgjklcnlaaDoor.Wb

namespace Go.Proofs.YtihohjgjklcnlaaDoor.Wb
open Go.RowKit Tree

set_option maxRecDepth 100000 in
set_option maxHeartbeats 400000 in
theorem refRotated_any (x : Wd) (n : Nat) (w : World) (h0 : 0 < n) (h1 : n < 32) :
    Calls Tryd.prog 83 #[.int .u32 (wv x), .int .i64 n] w fun e w' => e = .returned (.int .u32 (wv (rotW x n))) ∧ Below w.heap.size w w' := by
  have hb := wv_nonneg x
  have hc := wv_lt x
  have hz : wv (rotW x n) = wv (x >>> n ||| x <<< (32 - n)) := by unfold rotW; rfl
  have HZ := Lib.hid hz
  clear hz
  obtain ⟨m, hm⟩ : ∃ m, m = 32 - n := ⟨_, rfl⟩
  simp only [← hm] at HZ
  have hm0 : m < 32 := by omega
  have hmn : (32 : Int) - (n : Int) = (m : Int) := by omega
  clear hm
  have hsl := wv_shl' x m
  have hsr := wv_shr' x n
  have hor := wv_or (x >>> n) (x <<< m)
  go_enter Tryd.func83, Tryd.ntmps83
  go_wp2_with fail
  go_quiet (fail)
  go_wp2_with fail
  go_ret
  rw [HZ.out]
  exact ⟨rfl, below_drewN (Below.refl _ _) _⟩
end Go.Proofs.YtihohjgjklcnlaaDoor.Wb

namespace Go.Proofs.YtihohjgjklcnlaaDoor.Wb
open Go.RowKit Tree

/-- The contract of the reference's Sum, as a premise. -/
structure RefSum : Prop where
  sum : ∀ (s : ByteArray) (w : World), s.size ≤ 2000 → Calls Tryd.prog 23 #[.string s] w (StrEnd (Sha.shaS s) w)

end Go.Proofs.YtihohjgjklcnlaaDoor.Wb

namespace Go.Proofs.YtihohjgjklcnlaaDoor.Wb
open Go.RowKit Tree

/-- The last k of the eight bytes for the length, the first ones first. -/
def lastB (n t : Nat) : List UInt8 := ([7, 6, 5, 4, 3, 2, 1, 0].take t).map fun i => UInt8.ofNat (8 * n / 2 ^ (8 * i))
theorem take8 : ∀ t : Fin 8, ([7, 6, 5, 4, 3, 2, 1, 0] : List Nat).take (t.val + 1) = ([7, 6, 5, 4, 3, 2, 1, 0] : List Nat).take t.val ++ [7 - t.val] := by decide
theorem lastB_succ (n t : Nat) (h : t < 8) : lastB n (t + 1) = lastB n t ++ [UInt8.ofNat (8 * n / 2 ^ (8 * (7 - t)))] := by
  unfold lastB
  rw [take8 ⟨t, h⟩, List.map_append]
  rfl
theorem lastB_length (n t : Nat) (h : t ≤ 8) : (lastB n t).length = t := by
  unfold lastB
  rw [List.length_map, List.length_take]
  show min t 8 = t
  omega

theorem bytesV_snoc (l : List UInt8) (b : UInt8) : bytesV (l ++ [b]) = bytesV l ++ [.int .u8 (wv (bw b))] := by unfold bytesV; rw [List.map_append]; rfl

set_option maxRecDepth 100000 in
set_option maxHeartbeats 1000000 in
theorem refExt_any (s : ByteArray) (w : World) (hs : s.size ≤ 2000) :
    Calls Tryd.prog 51 #[.string s] w fun e w' => (∃ v, e = .returned v ∧ w'.ownsRow w.heap.size 5 1 v (Sha.pad s.data.toList).length (bytesV (Sha.pad s.data.toList))) ∧ Below w.heap.size w w' := by
  obtain ⟨i0, hi0, hz0, hz1, hz2⟩ := info_parts info_u8
  go_enter Tryd.func51, Tryd.ntmps51
  go_wp2_with fail
  go_loopw [3, 4] (fun v i wr => ∃ k : Nat, k ≤ s.size ∧ i = .int .i64 k ∧ wr.ownsRow w.heap.size 5 1 v k (bytesV (s.data.toList.take k)) ∧ Below w.heap.size w wr) (fun _ i _ => s.size - (intOf i).toNat)
  case atStart => exact ⟨0, by omega, rfl, World.ownsRow_nil _ _ _ _, Below.refl _ _⟩
  case round =>
    obtain ⟨k, hk, rfl, hown, hbr⟩ := hrel
    by_cases hks : k < s.size
    · have hki : (k : Int) < (s.size : Int) := by omega
      have hlk : k < s.data.toList.length := by rw [Array.length_toList]; exact hks
      have hT : s.data.toList.take (k + 1) = s.data.toList.take k ++ [s[k]] := by
        rw [List.take_succ_eq_append_getElem hlk]; rfl
      have hB := hbr.size
      have hlt := fun k e => (hown.lt k e).1
      have HT := Lib.hid (show bytesV (s.data.toList.take (k + 1)) = bytesV (s.data.toList.take k) ++ [.int .u8 (s[k].toNat : Int)] by rw [hT, bytesV_snoc, wv_bw])
      clear hT
      generalize bytesV (s.data.toList.take k) = R at *
      go_wp2_with (at_builtin; refine wpList_append_own _ rfl _ _ 65 rfl w.heap.size 5 i0 (.int .u8 0) 1 1 Tryd.underlying65 hi0 hz0 hz1 hz2 rfl (by decide) _ _ _ rfl (hown.alloc _) ⟨wr.heap.size, 0, none⟩ 1 1 [.int .u8 (s[k].toNat : Int)] rfl rfl (cell_one_new _ _ _) (by simp [Value.oneCell']) (by unfold maxLen; omega) (by omega) (by simp; omega) ?_; intro v' w4 hown' hgrow _)
      have hb5 : Below w.heap.size w w4 := (hbr.alloc hB _).grown hgrow (by simp; omega) hlt
      go_roundw
      case rel => exact ⟨k + 1, by omega, by go_num, by rw [HT.out]; exact hown', hb5⟩
      case measure => simp [intOf]; omega
    · have hki : ¬ ((k : Int) < (s.size : Int)) := by omega
      obtain rfl : k = s.size := by omega
      rw [List.take_of_length_le (by rw [Array.length_toList]; exact Nat.le_refl _)] at hown
      have hB := hbr.size
      have hlt := fun k e => (hown.lt k e).1
      have hl0 : s.data.toList.length = s.size := Array.length_toList
      obtain ⟨l, hl⟩ : ∃ l, l = s.data.toList := ⟨_, rfl⟩
      rw [← hl] at hown hl0
      have HLL := Lib.hid (And.intro hl hl0)
      clear hl hl0
      go_wp2_with (at_builtin; refine wpList_append_own _ rfl _ _ 65 rfl w.heap.size 5 i0 (.int .u8 0) 1 1 Tryd.underlying65 hi0 hz0 hz1 hz2 rfl (by decide) _ _ _ rfl (hown.alloc _) ⟨wr.heap.size, 0, none⟩ 1 1 [.int .u8 128] rfl rfl (cell_one_new _ _ _) (by simp [Value.oneCell']) (by unfold maxLen; omega) (by omega) (by simp; omega) ?_; intro v' w4 hown' hgrow _; have hb5 : Below w.heap.size w w4 := (hbr.alloc hB _).grown hgrow (by simp; omega) hlt; have hown5 : w4.ownsRow w.heap.size 5 1 v' (s.size + 1) (bytesV (l ++ 128 :: List.replicate (s.size + 1 - s.size - 1) 0)) := (by rw [show s.size + 1 - s.size - 1 = 0 by omega]; show w4.ownsRow w.heap.size 5 1 v' (s.size + 1) (bytesV (l ++ [128])); rw [bytesV_snoc]; exact hown'); have HO := Lib.hid (And.intro hown5 hb5); clear hown hown' hown5 hgrow hbr hlt hb5)
      have hz : Sha.padZ s.size < 64 := by unfold Sha.padZ; omega
      go_loopw [3] (fun v wr => ∃ c : Nat, s.size + 1 ≤ c ∧ c ≤ s.size + 1 + Sha.padZ s.size ∧ wr.ownsRow w.heap.size 5 1 v c (bytesV (l ++ 128 :: List.replicate (c - s.size - 1) 0)) ∧ Below w.heap.size w wr) (fun v _ => match v with | .slice _ m _ => s.size + 1 + Sha.padZ s.size - m | _ => 0)
      case atStart => exact ⟨s.size + 1, by omega, by omega, HO.out.1, HO.out.2⟩
      case round =>
        clear HO
        obtain ⟨c, hc1, hc2, hown, hbr⟩ := hrel
        obtain ⟨g, cap, rfl⟩ : ∃ g cap, u3 = .slice (some ⟨g, 0, none⟩) c cap := by
          obtain ⟨c', rfl⟩ : ∃ c', c = c' + 1 := ⟨c - 1, by omega⟩
          exact ownsRow_succ hown
        have hB := hbr.size
        have hlt := fun k e => (hown.lt k e).1
        by_cases hcz : c < s.size + 1 + Sha.padZ s.size
        · have hne : ((c : Int) % 64 != 56) = true := bne_iff_ne.2 (by unfold Sha.padZ at hcz; omega)
          have hne2 : ((c : Int).tmod 64 != 56) = true := bne_iff_ne.2 (by rw [Int.tmod_eq_emod_of_nonneg (by omega)]; exact bne_iff_ne.1 hne)
          have HCZ := Lib.hid (And.intro hc1 (And.intro hc2 hcz))
          clear hc1 hc2 hcz
          go_wp2_with (at_builtin; refine wpList_append_own _ rfl _ _ 65 rfl w.heap.size 5 i0 (.int .u8 0) 1 1 Tryd.underlying65 hi0 hz0 hz1 hz2 rfl (by decide) _ _ _ rfl (hown.alloc _) ⟨wr.heap.size, 0, none⟩ 1 1 [.int .u8 0] rfl rfl (cell_one_new _ _ _) (by simp [Value.oneCell']) (by have := HCZ.out; unfold maxLen; omega) (by have := HCZ.out; omega) (by simp; omega) ?_; intro v' w4 hown' hgrow _; have hb5 : Below w.heap.size w w4 := (hbr.alloc hB _).grown hgrow (by simp; omega) hlt; have hn : bytesV (l ++ 128 :: List.replicate (c + 1 - s.size - 1) 0) = bytesV (l ++ 128 :: List.replicate (c - s.size - 1) 0) ++ [.int .u8 0] := (by rw [show c + 1 - s.size - 1 = (c - s.size - 1) + 1 by have := HCZ.out; omega, List.replicate_succ', ← List.cons_append, ← List.append_assoc, bytesV_snoc]; rfl); have HN := Lib.hid (And.intro hb5 (hn ▸ hown')); obtain ⟨g5, cap5, rfl⟩ := ownsRow_succ hown'; clear hn hown' hgrow hb5)
          exact ⟨⟨c + 1, by have := HCZ.out; omega, by have := HCZ.out; omega, HN.out.2, HN.out.1⟩, by show s.size + 1 + Sha.padZ s.size - (c + 1) < s.size + 1 + Sha.padZ s.size - c; have := HCZ.out; omega⟩
        · have hce : c = s.size + 1 + Sha.padZ s.size := by omega
          have hne : ((c : Int) % 64 != 56) = false := by rw [hce]; simp; unfold Sha.padZ; omega
          have hcz2 : c - s.size - 1 = Sha.padZ s.size := by omega
          rw [hcz2] at hown
          have HCE := Lib.hid hce
          have hown0 : wr.ownsRow w.heap.size 5 1 (.slice (some ⟨g, 0, none⟩) c cap) (c + 0) (bytesV (l ++ 128 :: List.replicate (Sha.padZ s.size) 0 ++ lastB s.size 0)) := by
            show wr.ownsRow w.heap.size 5 1 (.slice (some ⟨g, 0, none⟩) c cap) c (bytesV (l ++ 128 :: List.replicate (Sha.padZ s.size) 0 ++ []))
            rw [List.append_nil]; exact hown
          have HO := Lib.hid (And.intro hown0 hbr)
          have hcs : c ≤ 2100 := by omega
          clear hown hown0 hbr hB hlt hcz hce hcz2 hc1 hc2
          go_wp2_with fail
          go_loopw [3, 5] (fun v i wr => ∃ t : Nat, t ≤ 8 ∧ i = .int .i64 (7 - (t : Int)) ∧ wr.ownsRow w.heap.size 5 1 v (c + t) (bytesV (l ++ 128 :: List.replicate (Sha.padZ s.size) 0 ++ lastB s.size t)) ∧ Below w.heap.size w wr) (fun _ i _ => (intOf i + 1).toNat)
          case atStart => exact ⟨0, by omega, rfl, HO.out.1, HO.out.2⟩
          case round =>
            clear HO
            obtain ⟨t, ht8, rfl, hown, hbr⟩ := hrel
            have hB := hbr.size
            have hlt := fun k e => (hown.lt k e).1
            by_cases ht : t < 8
            · obtain ⟨q, hq⟩ : ∃ q : Nat, (7 : Int) - (t : Int) = (q : Int) := ⟨7 - t, by omega⟩
              have hls := lastB_succ s.size t ht
              have hqt : 7 - t = q := by omega
              rw [hqt] at hls
              have hbv : bytesV (l ++ 128 :: List.replicate (Sha.padZ s.size) 0 ++ lastB s.size (t + 1)) = bytesV (l ++ 128 :: List.replicate (Sha.padZ s.size) 0 ++ lastB s.size t) ++ [.int .u8 (8 * (s.size : Int) / 2 ^ (8 * q) % 256)] := by
                rw [hls, ← List.append_assoc, bytesV_snoc, len_byte]
              have HBV := Lib.hid hbv
              have HQ := Lib.hid (And.intro hq ht)
              rw [hq]
              have hq7 : q ≤ 7 := by omega
              clear hls hqt hbv hq ht ht8
              generalize bytesV (l ++ 128 :: List.replicate (Sha.padZ s.size) 0 ++ lastB s.size t) = R at *
              go_wp2_with (at_builtin; refine wpList_append_own _ rfl _ _ 65 rfl w.heap.size 5 i0 (.int .u8 0) 1 1 Tryd.underlying65 hi0 hz0 hz1 hz2 rfl (by decide) _ _ _ rfl (hown.alloc _) ⟨wr.heap.size, 0, none⟩ 1 1 [.int .u8 (8 * (s.size : Int) / 2 ^ (8 * q) % 256)] rfl rfl (cell_one_new _ _ _) (by simp [Value.oneCell']) (by have := HQ.out.2; unfold maxLen; omega) (by have := HQ.out.2; omega) (by simp; omega) ?_; intro v' w4 hown' hgrow _; have hb5 : Below w.heap.size w w4 := (hbr.alloc hB _).grown hgrow (by simp; omega) hlt)
              have HH := Lib.hid (And.intro hown' hb5)
              refine ⟨⟨t + 1, by have := HQ.out.2; omega, by rw [show (q : Int) - 1 = 7 - ((t + 1 : Nat) : Int) by have := HQ.out.1; omega], by rw [HBV.out]; exact HH.out.1, HH.out.2⟩, ?_⟩
              show ((q : Int) - 1 + 1).toNat < ((q : Int) + 1).toNat
              omega
            · have hte : t = 8 := by omega
              subst hte
              have HO := Lib.hid (And.intro hown hbr)
              clear hown hbr
              go_wp2_with fail
              go_ret
              have hpd : Sha.pad s.data.toList = l ++ 128 :: List.replicate (Sha.padZ s.size) 0 ++ lastB s.size 8 := by
                rw [← HLL.out.1]
                unfold Sha.pad Sha.padB lastB
                rw [HLL.out.2, List.append_assoc]
                rfl
              have hpl : (Sha.pad s.data.toList).length = c + 8 := by
                rw [Sha.pad_length, ← HLL.out.1, HLL.out.2, HCE.out]
                omega
              refine ⟨⟨_, rfl, ?_⟩, HO.out.2⟩
              rw [hpl, hpd]
              exact HO.out.1
end Go.Proofs.YtihohjgjklcnlaaDoor.Wb

namespace Go.Proofs.YtihohjgjklcnlaaDoor.Wb
open Go.RowKit Tree

theorem K_row : wordsV Sha.K = Sha.KN.map (fun n : Nat => Value.int .u32 (n : Int)) := by kernel_rfl

set_option maxRecDepth 100000 in
set_option maxHeartbeats 1000000 in
theorem refK_any (w : World) : Calls Tryd.prog 84 #[] w fun e w' => e = .returned (.slice (some ⟨w.heap.size, 0, none⟩) 64 64) ∧ w' = w.alloc (.cells (wordsV Sha.K).toArray 103) := by
  rw [K_row]
  go_enter Tryd.func84, Tryd.ntmps84
  go_wp2_with fail
  go_ret
  exact ⟨rfl, rfl⟩
end Go.Proofs.YtihohjgjklcnlaaDoor.Wb

namespace Go.Proofs.YtihohjgjklcnlaaDoor.Wb
open Go.RowKit Tree

theorem info_u32 : (Tryd.prog.info? 103).map (fun i => (i.zero, i.size, i.bytes)) = some (some (.int .u32 0), 1, 4) := by kernel_rfl
/-- A row of words of one's own. -/
def WOwn (w : World) (base : Nat) (v : Value) (l : List Wd) : Prop := w.ownsRow base 103 1 v l.length (wordsV l)
theorem WOwn.snoc {w : World} {base n : Nat} {v : Value} {l : List Wd} {x : Wd} (hn : l.length = n) (h : w.ownsRow base 103 1 v (n + 1) (wordsV l ++ [.int .u32 (wv x)])) : WOwn w base v (l ++ [x]) := by
  unfold WOwn wordsV
  rw [List.length_append, List.map_append, hn]
  exact h
theorem WOwn.open {w : World} {base : Nat} {v : Value} {l : List Wd} (h : WOwn w base v l) (hl : 0 < l.length) : ∃ g cap, v = .slice (some ⟨g, 0, none⟩) l.length cap ∧ base ≤ g ∧ g < w.heap.size ∧ WordsAt w g l := by
  obtain ⟨h1, ⟨rfl, h2⟩ | ⟨g, cap, cur, rfl, h2, h3, h4, h5, h6, h7⟩⟩ := h
  · omega
  · have hrow : w.ownsRow base 103 1 (.slice (some ⟨g, 0, none⟩) l.length cap) l.length (wordsV l) := ⟨h1, .inr ⟨g, cap, cur, rfl, h2, h3, h4, h5, h6, h7⟩⟩
    refine ⟨g, cap, rfl, h2, (Array.getElem?_eq_some_iff.1 h3).1, fun i hi => ?_⟩
    have := hrow.cells (g := g) rfl i _ (wordsV_at l i hi)
    rwa [show (⟨g, 0, none⟩ : Addr).add i = ⟨g, i, none⟩ by cases i <;> simp [Addr.add]] at this
/-- What block answers. -/
def BlkEnd (s : Sha.St) (w : World) (e : Ending) (w' : World) : Prop := (∃ v, e = .returned v ∧ WOwn w' w.heap.size v s.list) ∧ Below w.heap.size w w'
/-- The bytes of a part of a row. -/
def PartAt (w : World) (b off : Nat) (p : List UInt8) : Prop := ∀ i, i < p.length → w.cell? ⟨b, off + i, none⟩ = some (.int .u8 (wv (bw (p.getD i 0))))
theorem PartAt.below {w w' : World} {b off : Nat} {p : List UInt8} (h : PartAt w b off p) {n : Nat} (hb : Below n w w') (hn : b < n) : PartAt w' b off p := fun i hi => (hb.cell (p := ⟨b, off + i, none⟩) hn).trans (h i hi)

set_option maxRecDepth 100000 in
set_option maxHeartbeats 400000 in
theorem refRot_any (x : Wd) (k : Int) (w : World) (h0 : 0 < k) (h1 : k < 32) :
    Calls Tryd.prog 83 #[.int .u32 (wv x), .int .i64 k] w fun e w' => e = .returned (.int .u32 (wv (rotW x k.toNat))) ∧ ∃ m, w' = w.drewN m := by
  obtain ⟨n, rfl⟩ := Int.eq_ofNat_of_zero_le (Int.le_of_lt h0)
  rw [Int.toNat_natCast]
  have hb := wv_nonneg x
  have hc := wv_lt x
  have hz : wv (rotW x n) = wv (x >>> n ||| x <<< (32 - n)) := by unfold rotW; rfl
  have HZ := Lib.hid hz
  clear hz
  obtain ⟨m, hm⟩ : ∃ m, m = 32 - n := ⟨_, rfl⟩
  simp only [← hm] at HZ
  have hm0 : m < 32 := by omega
  have hmn : (32 : Int) - (n : Int) = (m : Int) := by omega
  clear hm
  have hsl := wv_shl' x m
  have hsr := wv_shr' x n
  have hor := wv_or (x >>> n) (x <<< m)
  go_enter Tryd.func83, Tryd.ntmps83
  go_wp2_with fail
  go_quiet (fail)
  go_wp2_with fail
  go_ret
  rw [HZ.out]
  exact ⟨rfl, _, rfl⟩
/-- The same within a region that only reads. -/
theorem refRot_q (x : Wd) (k : Int) (w : World) (n : Nat) (h0 : 0 < k) (h1 : k < 32) :
    Calls Tryd.prog 83 #[.int .u32 (wv x), .int .i64 k] (w.drewN n) fun e w' => e = .returned (.int .u32 (wv (rotW x k.toNat))) ∧ ∃ m, w' = w.drewN m :=
  (refRot_any x k (w.drewN n) h0 h1).mono fun _ _ ⟨he, m, hw⟩ => ⟨he, n + m, by rw [hw, World.drewN_drewN]⟩
/-- The same behind a region that only read. -/
theorem refRot_q2 (x : Wd) (k : Int) (w : World) (a n : Nat) (h0 : 0 < k) (h1 : k < 32) :
    Calls Tryd.prog 83 #[.int .u32 (wv x), .int .i64 k] (w.drewN (a + n)) fun e w' => e = .returned (.int .u32 (wv (rotW x k.toNat))) ∧ ∃ m, w' = w.drewN (a + m) :=
  (refRot_any x k (w.drewN (a + n)) h0 h1).mono fun _ _ ⟨he, m, hw⟩ => ⟨he, n + m, by rw [hw, World.drewN_drewN, Nat.add_assoc]⟩

theorem fill8 (a b c d e f g h : Int) : Instr.fill (fun i => some (i * 1, 1)) (Array.map (fun x => (Value.int IntKind.u32 0).cells[x % (Value.int IntKind.u32 0).cells.size]!) (Array.range (8 * 1))) [(0, .int .u32 a), (1, .int .u32 b), (2, .int .u32 c), (3, .int .u32 d), (4, .int .u32 e), (5, .int .u32 f), (6, .int .u32 g), (7, .int .u32 h)] = some #[.int .u32 a, .int .u32 b, .int .u32 c, .int .u32 d, .int .u32 e, .int .u32 f, .int .u32 g, .int .u32 h] := by
  kernel_rfl
theorem WOwn.mono {w : World} {base base' : Nat} {v : Value} {l : List Wd} (h : WOwn w base v l) (hb : base' ≤ base) : WOwn w base' v l := by
  obtain ⟨h1, h2 | ⟨g, cap, cur, rfl, h2, h3, h4⟩⟩ := h
  · exact ⟨h1, .inl h2⟩
  · exact ⟨h1, .inr ⟨g, cap, cur, rfl, Nat.le_trans hb h2, h3, h4⟩⟩
theorem WordsAt.news {w : World} {g : Nat} {l : List Wd} (h : WordsAt w g l) : ∀ j u, (wordsV l)[j]? = some u → w.cell? ((⟨g, 0, none⟩ : Addr).add j) = some u := fun j u hu => by
  have hj : j < l.length := by have := (List.getElem?_eq_some_iff.1 hu).1; rwa [wordsV_length] at this
  rw [wordsV_at l j hj] at hu
  rw [show (⟨g, 0, none⟩ : Addr).add j = ⟨g, j, none⟩ by cases j <;> simp [Addr.add], h j hj]
  exact hu
theorem below_step' {w w1 w2 : World} (a : Below w.heap.size w w1) (b : Below w1.heap.size w1 w2) : Below w.heap.size w w2 := a.trans (b.mono a.size)
/-- What stays in the rounds of a block: the words of the schedule, the constants, the eight words. -/
structure R3 (w wr : World) (gw gk g : Nat) (ws : List Wd) (st : Sha.St) : Prop where
  cw : WordsAt wr gw ws
  hw : gw < wr.heap.size
  ck : WordsAt wr gk Sha.K
  hk : gk < wr.heap.size
  cv : WordsAt wr g st.list
  hv : g < wr.heap.size
  bel : Below w.heap.size w wr
theorem R3.step {w w1 w2 : World} {gw gk g : Nat} {ws : List Wd} {st : Sha.St} (h : R3 w w1 gw gk g ws st) (hb : Below w1.heap.size w1 w2) : R3 w w2 gw gk g ws st :=
  ⟨h.cw.below hb h.hw, Nat.lt_of_lt_of_le h.hw hb.size, h.ck.below hb h.hk, Nat.lt_of_lt_of_le h.hk hb.size, h.cv.below hb h.hv, Nat.lt_of_lt_of_le h.hv hb.size, below_step' h.bel hb⟩

set_option maxRecDepth 100000 in
set_option maxHeartbeats 4000000 in
theorem refBlock_any (gh ch gb off cb : Nat) (p : List UInt8) (s : Sha.St) (w : World) (hp : p.length = 64) (hgh : gh < w.heap.size) (hh : WordsAt w gh s.list) (hgb : gb < w.heap.size) (hb : PartAt w gb off p) :
    Calls Tryd.prog 52 #[.slice (some ⟨gh, 0, none⟩) 8 ch, .slice (some ⟨gb, off, none⟩) 64 cb] w (BlkEnd (Sha.block p s) w) := by
  have HL := Lib.hid hp
  have HP := Lib.hid (And.intro hb hgb)
  have HH := Lib.hid (And.intro hh hgh)
  clear hp hb hgb hh hgh
  obtain ⟨i0, hi0, hz0, hz1, hz2⟩ := info_parts info_u32
  go_enter Tryd.func52, Tryd.ntmps52
  go_wp2_with fail
  go_loopw [5, 6] (fun v i wr => ∃ k : Nat, k ≤ 16 ∧ i = .int .i64 k ∧ WOwn wr w.heap.size v (Sha.firstW p k) ∧ Below w.heap.size w wr) (fun _ i _ => 16 - (intOf i).toNat)
  case atStart => exact ⟨0, by omega, rfl, World.ownsRow_nil _ _ _ _, Below.refl _ _⟩
  case round =>
    obtain ⟨k, hk, rfl, hown, hB⟩ := hrel
    by_cases hk16 : k < 16
    · as_aux_lemma =>
      have hl := HL.out
      have hgb := HP.out.2
      have cc := fun i (hi : i < 64) => (hB.cell (p := ⟨gb, off + i, none⟩) hgb).trans (HP.out.1 i (by omega))
      have c0 := cc (4 * k) (by omega)
      have c1 := cc (4 * k + 1) (by omega)
      have c2 := cc (4 * k + 2) (by omega)
      have c3 := cc (4 * k + 3) (by omega)
      have hlen := Sha.firstW_length p k
      have hBs := hB.size
      have hlt := fun k e => (hown.lt k e).1
      have hap : u5.ownBlock ≠ some gb := fun e => by have := hlt gb e; omega
      have hown' : wr.ownsRow w.heap.size 103 1 u5 k (wordsV (Sha.firstW p k)) := by have := hown; unfold WOwn at this; rwa [hlen] at this
      clear hl cc hown
      obtain ⟨x0, e0⟩ : ∃ x, x = p.getD (4 * k) 0 := ⟨_, rfl⟩
      obtain ⟨x1, e1⟩ : ∃ x, x = p.getD (4 * k + 1) 0 := ⟨_, rfl⟩
      obtain ⟨x2, e2⟩ : ∃ x, x = p.getD (4 * k + 2) 0 := ⟨_, rfl⟩
      obtain ⟨x3, e3⟩ : ∃ x, x = p.getD (4 * k + 3) 0 := ⟨_, rfl⟩
      rw [← e0] at c0
      rw [← e1] at c1
      rw [← e2] at c2
      rw [← e3] at c3
      have HE := Lib.hid (And.intro (And.intro e0 e1) (And.intro e2 e3))
      have HLN := Lib.hid hlen
      clear e0 e1 e2 e3 hlen
      obtain ⟨m, hm⟩ : ∃ m, 4 * k = m := ⟨_, rfl⟩
      rw [hm] at c0 c1 c2 c3
      have hm0 : m ≤ 60 := by omega
      have w0 : IntKind.i64.wrap (4 * (k : Int)) = (m : Int) := by rw [IntWalk.i64_in _ ⟨by omega, by omega⟩]; omega
      have w1 : IntKind.i64.wrap ((m : Int) + 1) = (m : Int) + 1 := IntWalk.i64_in _ ⟨by omega, by omega⟩
      have w2 : IntKind.i64.wrap ((m : Int) + 2) = (m : Int) + 2 := IntWalk.i64_in _ ⟨by omega, by omega⟩
      have w3 : IntKind.i64.wrap ((m : Int) + 3) = (m : Int) + 3 := IntWalk.i64_in _ ⟨by omega, by omega⟩
      have t1 : ((m : Int) + 1).toNat = m + 1 := by omega
      have t2 : ((m : Int) + 2).toNat = m + 2 := by omega
      have t3 : ((m : Int) + 3).toNat = m + 3 := by omega
      have l0 : (m : Int) < 64 := by omega
      have l1 : (m : Int) + 1 < 64 := by omega
      have l2 : (m : Int) + 2 < 64 := by omega
      have l3 : (m : Int) + 3 < 64 := by omega
      have n1 : 0 ≤ (m : Int) + 1 := by omega
      have n2 : 0 ≤ (m : Int) + 2 := by omega
      have n3 : 0 ≤ (m : Int) + 3 := by omega
      have b0 := wv_bw_lt x0
      have b1 := wv_bw_lt x1
      have b2 := wv_bw_lt x2
      have b3 := wv_bw_lt x3
      have z0 := wv_nonneg (bw x0)
      have z1 := wv_nonneg (bw x1)
      have z2 := wv_nonneg (bw x2)
      have z3 := wv_nonneg (bw x3)
      have hk0 : (k : Int) < 16 := by omega
      have HM := Lib.hid hm
      clear hm
      have g0 := wv_wrap (bw x0)
      have g1 := wv_wrap (bw x1)
      have g2 := wv_wrap (bw x2)
      have g3 := wv_wrap (bw x3)
      have g4 := wv_shlk (bw x0) 24 16777216 rfl
      have g5 := wv_shlk (bw x1) 16 65536 rfl
      have g6 := wv_shlk (bw x2) 8 256 rfl
      have g7 := wv_or (bw x0 <<< 24) (bw x1 <<< 16)
      have g8 := wv_or (bw x0 <<< 24 ||| bw x1 <<< 16) (bw x2 <<< 8)
      have g9 := wv_or (bw x0 <<< 24 ||| bw x1 <<< 16 ||| bw x2 <<< 8) (bw x3)
      obtain ⟨y, hy⟩ : ∃ y, bw x0 <<< 24 ||| bw x1 <<< 16 ||| bw x2 <<< 8 ||| bw x3 = y := ⟨_, rfl⟩
      rw [hy] at g9
      have hbe : Sha.be p (4 * k) = y := by rw [← hy, HE.out.1.1, HE.out.1.2, HE.out.2.1, HE.out.2.2]; rfl
      have HBE := Lib.hid hbe
      clear hy hbe
      go_wp2_with fail
      go_region_held3 (fun w' => w'.cell? ⟨gb, off + m, none⟩ = some (.int .u8 (wv (bw x0))) ∧ w'.cell? ⟨gb, off + (m + 1), none⟩ = some (.int .u8 (wv (bw x1))) ∧ w'.cell? ⟨gb, off + (m + 2), none⟩ = some (.int .u8 (wv (bw x2))) ∧ w'.cell? ⟨gb, off + (m + 3), none⟩ = some (.int .u8 (wv (bw x3))))
        (refine ⟨?_, ?_, ?_, ?_⟩ <;> first | (rw [hgrow.cell_far _ (by simp; omega) (Ne.symm hap)]; go_split_ands; assumption) | (go_split_ands; assumption) | go_keep)
        ((refine step_append_lies _ (by rfl) _ _ _ (by rfl) w.heap.size 103 i0 _ 1 4 Tryd.underlying104 hi0 hz0 hz1 hz2 rfl (by omega) u5 k (wordsV (Sha.firstW p k)) (by rfl) ((hown'.alloc _).drew)
            ⟨wr.heap.size, 0, none⟩ 1 1 [.int .u32 (wv y)] (by rfl) (by rfl) (World.news_of_block (cs := #[.int .u32 (wv y)]) (t := 103) (fr := (0, 0)) (heap_alloc_new wr _)) (by simp [Value.oneCell'])
            (by omega) (by unfold maxLen; omega) (by omega) (by simp; omega) (wr.heap.size + 1) (by simp) ?_; intro gg cap w2 hown2 hgrow hat hlt2))
      have hb2 : Below w.heap.size w w2 := ((hB.alloc hBs _).drew).grown hgrow (by simp; omega) hlt
      have HO := Lib.hid (And.intro (WOwn.snoc HLN.out hown2) hb2)
      clear hown2 hgrow hat hb2
      go_wp2_with fail
      go_roundw
      case rel => exact ⟨k + 1, by omega, by go_num, by rw [Sha.firstW, HBE.out]; exact HO.out.1, HO.out.2⟩
      case measure => simp [intOf]; omega
    · as_aux_lemma =>
      have hke : k = 16 := by omega
      rw [hke] at hown
      have hd16 : decide ((k : Int) < 16) = false := by simp; omega
      clear hk16 hk hke
      have HO := Lib.hid (And.intro hown hB)
      clear hown hB
      go_wp2_with fail
      clear hd16
      obtain ⟨W1, hW1⟩ : ∃ W, W = wr := ⟨_, rfl⟩
      rw [← hW1] at HO ⊢
      clear hW1
      go_loopw [5, 7] (fun v i wr => ∃ k : Nat, 16 ≤ k ∧ k ≤ 64 ∧ i = .int .i64 k ∧ Hid (WOwn wr w.heap.size v (Sha.moreW (k - 16) (Sha.firstW p 16)) ∧ Below w.heap.size w wr)) (fun _ i _ => 64 - (intOf i).toNat)
      case atStart => exact ⟨16, by omega, by omega, rfl, HO⟩
      case round =>
        clear HO
        obtain ⟨k, hk0, hk, rfl, HR⟩ := hrel
        by_cases hk64 : k < 64
        · as_aux_lemma =>
          have hn : Sha.moreW (k + 1 - 16) (Sha.firstW p 16) = Sha.moreW (k - 16) (Sha.firstW p 16) ++ [Sha.nextW (Sha.moreW (k - 16) (Sha.firstW p 16))] := by
            rw [show k + 1 - 16 = (k - 16) + 1 by omega]; rfl
          have hlen : (Sha.moreW (k - 16) (Sha.firstW p 16)).length = k := by rw [Sha.moreW_length, Sha.firstW_length]; omega
          generalize Sha.moreW (k - 16) (Sha.firstW p 16) = ws at *
          obtain ⟨g, cap, rfl, hg1, hg2, hcc⟩ := HR.out.1.open (by omega)
          rw [hlen] at HR ⊢
          have HOWN0 : Hid (wr.ownsRow w.heap.size 103 1 (.slice (some ⟨g, 0, none⟩) k cap) k (wordsV ws)) := Lib.hid (by have := HR.out.1; unfold WOwn at this; rwa [hlen] at this)
          have HB0 := Lib.hid HR.out.2
          have c15 := hcc (k - 15) (by omega)
          have c2 := hcc (k - 2) (by omega)
          have c16 := hcc (k - 16) (by omega)
          have c7 := hcc (k - 7) (by omega)
          have hnx : Sha.nextW ws = ws.getD (k - 16) 0 + Sha.s0 (ws.getD (k - 15) 0) + ws.getD (k - 7) 0 + Sha.s1 (ws.getD (k - 2) 0) := by unfold Sha.nextW; rw [hlen]
          rw [hnx] at hn
          have HN := Lib.hid hn
          have HLN := Lib.hid hlen
          have HG := Lib.hid (And.intro hg1 hg2)
          clear hn hlen hnx hcc hg1 hg2 HR
          generalize ws.getD (k - 15) 0 = a15 at *
          generalize ws.getD (k - 2) 0 = a2 at *
          generalize ws.getD (k - 16) 0 = a16 at *
          generalize ws.getD (k - 7) 0 = a7 at *
          have w15 : IntKind.i64.wrap ((k : Int) - 15) = ((k - 15 : Nat) : Int) := by rw [IntWalk.i64_in _ ⟨by omega, by omega⟩]; omega
          have w2 : IntKind.i64.wrap ((k : Int) - 2) = ((k - 2 : Nat) : Int) := by rw [IntWalk.i64_in _ ⟨by omega, by omega⟩]; omega
          have w16 : IntKind.i64.wrap ((k : Int) - 16) = ((k - 16 : Nat) : Int) := by rw [IntWalk.i64_in _ ⟨by omega, by omega⟩]; omega
          have w7 : IntKind.i64.wrap ((k : Int) - 7) = ((k - 7 : Nat) : Int) := by rw [IntWalk.i64_in _ ⟨by omega, by omega⟩]; omega
          have l15 : ((k - 15 : Nat) : Int) < (k : Int) := by omega
          have l2 : ((k - 2 : Nat) : Int) < (k : Int) := by omega
          have l16 : ((k - 16 : Nat) : Int) < (k : Int) := by omega
          have l7 : ((k - 7 : Nat) : Int) < (k : Int) := by omega
          have hkl : (k : Int) < 64 := by omega
          generalize k - 15 = m15 at *
          generalize k - 2 = m2 at *
          generalize k - 16 = m16 at *
          generalize k - 7 = m7 at *
          have g1 := wv_xor (rotW a15 7) (rotW a15 18)
          have g2 := wv_shrk a15 3 8 rfl
          have g3 : bits .xor .u32 (wv (rotW a15 7 ^^^ rotW a15 18)) (wv (a15 >>> 3)) = wv (Sha.s0 a15) := wv_xor _ _
          have g4 := wv_xor (rotW a2 17) (rotW a2 19)
          have g5 := wv_shrk a2 10 1024 rfl
          have g6 : bits .xor .u32 (wv (rotW a2 17 ^^^ rotW a2 19)) (wv (a2 >>> 10)) = wv (Sha.s1 a2) := wv_xor _ _
          have g7 := wv_add' a16 (Sha.s0 a15)
          have g8 := wv_add' (a16 + Sha.s0 a15) a7
          have g9 := wv_add' (a16 + Sha.s0 a15 + a7) (Sha.s1 a2)
          go_wp2_with fail
          go_quiet ((go_at_call 83; exact refRot_q _ _ _ _ (by decide) (by decide)))
          go_wp2_with fail
          go_quiet ((go_at_call 83; exact refRot_q2 _ _ _ _ _ (by decide) (by decide)))
          go_wp2_with fail
          generalize hw9 : (wr.drewN _).drewN _ = w9
          have c16' : w9.cell? ⟨g, m16, none⟩ = some (.int .u32 (wv a16)) := by rw [← hw9]; exact c16
          have c7' : w9.cell? ⟨g, m7, none⟩ = some (.int .u32 (wv a7)) := by rw [← hw9]; exact c7
          have HOWN : Hid (w9.ownsRow w.heap.size 103 1 (.slice (some ⟨g, 0, none⟩) k cap) k (wordsV ws)) := Lib.hid (by rw [← hw9]; exact HOWN0.out)
          have HB9 : Hid (Below w.heap.size w w9) := Lib.hid (by rw [← hw9]; exact below_drewN (below_drewN HB0.out _) _)
          clear hw9 c16 c7 c15 c2 HOWN0 HB0
          refine wp_region_any (by kernel_rfl) ?_
          change wpAny _ _ _ _ _ _ _ (World.drew _)
          refine wpAny_take (i := 0) (oi := { dst := some 103, op := Op.move (Operand.tmp 5), type := 104, pos := "ref.go:48", after := #[], guard := none }) (v := ?vx1_0) rfl (by kernel_rfl) (by kernel_rfl) (by kernel_rfl) (fun _ _ _ h => h) (Or.inl ⟨by rfl, ?yx1_0⟩) ?tx1_0
          case yx1_0 => intro w; go_simp; try with_reducible rfl
          simp only [Act.put, List.setIfInBounds_toArray, List.set_cons_zero, List.set_cons_succ]
          refine wpAny_take (i := 1) (oi := { dst := some 104, op := Op.move (Operand.tmp 5), type := 104, pos := "ref.go:48", after := #[], guard := none }) (v := ?vx2_1) rfl (by kernel_rfl) (by kernel_rfl) (by kernel_rfl) (fun _ _ _ h => h) (Or.inl ⟨by rfl, ?yx2_1⟩) ?tx2_1
          case yx2_1 => intro w; go_simp; try with_reducible rfl
          simp only [Act.put, List.setIfInBounds_toArray, List.set_cons_zero, List.set_cons_succ]
          refine wpAny_take (i := 2) (oi := { dst := some 105, op := Op.move (Operand.tmp 7), type := 3, pos := "ref.go:48", after := #[], guard := none }) (v := ?vx3_2) rfl (by kernel_rfl) (by kernel_rfl) (by kernel_rfl) (fun _ _ _ h => h) (Or.inl ⟨by rfl, ?yx3_2⟩) ?tx3_2
          case yx3_2 => intro w; go_simp; try with_reducible rfl
          simp only [Act.put, List.setIfInBounds_toArray, List.set_cons_zero, List.set_cons_succ]
          refine wpAny_take (i := 3) (oi := { dst := some 106, op := Op.binOp BinOp.sub 3 (Operand.tmp 105) (Operand.const (Value.int IntKind.i64 16)) 3, type := 3, pos := "ref.go:48", after := #[{ on := 2, ground := Ground.data }], guard := none }) (v := ?vx4_3) rfl (by kernel_rfl) (by kernel_rfl) (by kernel_rfl) (fun _ _ _ h => h) (Or.inl ⟨by rfl, ?yx4_3⟩) ?tx4_3
          case yx4_3 => intro w; go_simp; try with_reducible rfl
          simp only [Act.put, List.setIfInBounds_toArray, List.set_cons_zero, List.set_cons_succ]
          refine wpAny_take (i := 4) (oi := { dst := some 107, op := Op.indexAddr 104 (Operand.tmp 104) (Operand.tmp 106), type := 0, pos := "ref.go:48", after := #[{ on := 1, ground := Ground.data }, { on := 3, ground := Ground.data }], guard := none }) (v := ?vx5_4) rfl (by kernel_rfl) (by kernel_rfl) (by kernel_rfl) (fun _ _ _ h => h) (Or.inl ⟨by rfl, ?yx5_4⟩) ?tx5_4
          case yx5_4 => intro w; go_simp; try with_reducible rfl
          simp only [Act.put, List.setIfInBounds_toArray, List.set_cons_zero, List.set_cons_succ]
          refine wpAny_take (i := 6) (oi := { dst := some 109, op := Op.move (Operand.tmp 8), type := 103, pos := "ref.go:48", after := #[], guard := none }) (v := ?vx6_6) rfl (by kernel_rfl) (by kernel_rfl) (by kernel_rfl) (fun _ _ _ h => h) (Or.inl ⟨by rfl, ?yx6_6⟩) ?tx6_6
          case yx6_6 => intro w; go_simp; try with_reducible rfl
          simp only [Act.put, List.setIfInBounds_toArray, List.set_cons_zero, List.set_cons_succ]
          refine wpAny_take (i := 8) (oi := { dst := some 111, op := Op.move (Operand.tmp 5), type := 104, pos := "ref.go:48", after := #[], guard := none }) (v := ?vx7_8) rfl (by kernel_rfl) (by kernel_rfl) (by kernel_rfl) (fun _ _ _ h => h) (Or.inl ⟨by rfl, ?yx7_8⟩) ?tx7_8
          case yx7_8 => intro w; go_simp; try with_reducible rfl
          simp only [Act.put, List.setIfInBounds_toArray, List.set_cons_zero, List.set_cons_succ]
          refine wpAny_take (i := 9) (oi := { dst := some 112, op := Op.move (Operand.tmp 7), type := 3, pos := "ref.go:48", after := #[], guard := none }) (v := ?vx8_9) rfl (by kernel_rfl) (by kernel_rfl) (by kernel_rfl) (fun _ _ _ h => h) (Or.inl ⟨by rfl, ?yx8_9⟩) ?tx8_9
          case yx8_9 => intro w; go_simp; try with_reducible rfl
          simp only [Act.put, List.setIfInBounds_toArray, List.set_cons_zero, List.set_cons_succ]
          refine wpAny_take (i := 10) (oi := { dst := some 113, op := Op.binOp BinOp.sub 3 (Operand.tmp 112) (Operand.const (Value.int IntKind.i64 7)) 3, type := 3, pos := "ref.go:48", after := #[{ on := 9, ground := Ground.data }], guard := none }) (v := ?vx9_10) rfl (by kernel_rfl) (by kernel_rfl) (by kernel_rfl) (fun _ _ _ h => h) (Or.inl ⟨by rfl, ?yx9_10⟩) ?tx9_10
          case yx9_10 => intro w; go_simp; try with_reducible rfl
          simp only [Act.put, List.setIfInBounds_toArray, List.set_cons_zero, List.set_cons_succ]
          refine wpAny_take (i := 11) (oi := { dst := some 114, op := Op.indexAddr 104 (Operand.tmp 111) (Operand.tmp 113), type := 0, pos := "ref.go:48", after := #[{ on := 8, ground := Ground.data }, { on := 10, ground := Ground.data }], guard := none }) (v := ?vx10_11) rfl (by kernel_rfl) (by kernel_rfl) (by kernel_rfl) (fun _ _ _ h => h) (Or.inl ⟨by rfl, ?yx10_11⟩) ?tx10_11
          case yx10_11 => intro w; go_simp; try with_reducible rfl
          simp only [Act.put, List.setIfInBounds_toArray, List.set_cons_zero, List.set_cons_succ]
          refine wpAny_take (i := 14) (oi := { dst := some 117, op := Op.move (Operand.tmp 9), type := 103, pos := "ref.go:48", after := #[], guard := none }) (v := ?vx11_14) rfl (by kernel_rfl) (by kernel_rfl) (by kernel_rfl) (fun _ _ _ h => h) (Or.inl ⟨by rfl, ?yx11_14⟩) ?tx11_14
          case yx11_14 => intro w; go_simp; try with_reducible rfl
          simp only [Act.put, List.setIfInBounds_toArray, List.set_cons_zero, List.set_cons_succ]
          refine wpAny_ready (rs := [5, 12]) (by kernel_rfl) (by simp) ?_
          refine AllReady.cons (o := { dst := some 108, op := Op.load 103 (Operand.tmp 107), type := 103, pos := "ref.go:48", after := #[{ on := 4, ground := Ground.data }], guard := none }) rfl (fun K hK => ?_) ?_
          · go_simp
            refine hK _ _ ?_
            clear hK K
            refine wpAny_take (i := 7) (oi := { dst := some 110, op := Op.binOp BinOp.add 103 (Operand.tmp 108) (Operand.tmp 109) 103, type := 103, pos := "ref.go:48", after := #[{ on := 5, ground := Ground.data }, { on := 6, ground := Ground.data }], guard := none }) (v := ?vx12_7) rfl (by kernel_rfl) (by kernel_rfl) (by kernel_rfl) (fun _ _ _ h => h) (Or.inl ⟨by rfl, ?yx12_7⟩) ?tx12_7
            case yx12_7 => intro w; go_simp; try with_reducible rfl
            simp only [Act.put, List.setIfInBounds_toArray, List.set_cons_zero, List.set_cons_succ]
            refine wpAny_ready (rs := [12]) (by kernel_rfl) (by simp) ?_
            refine AllReady.cons (o := { dst := some 115, op := Op.load 103 (Operand.tmp 114), type := 103, pos := "ref.go:48", after := #[{ on := 11, ground := Ground.data }], guard := none }) rfl (fun K hK => ?_) AllReady.nil
            go_simp
            refine hK _ _ ?_
            clear hK K
            refine wpAny_take (i := 13) (oi := { dst := some 116, op := Op.binOp BinOp.add 103 (Operand.tmp 110) (Operand.tmp 115) 103, type := 103, pos := "ref.go:48", after := #[{ on := 7, ground := Ground.data }, { on := 12, ground := Ground.data }], guard := none }) (v := ?vx13_13) rfl (by kernel_rfl) (by kernel_rfl) (by kernel_rfl) (fun _ _ _ h => h) (Or.inl ⟨by rfl, ?yx13_13⟩) ?tx13_13
            case yx13_13 => intro w; go_simp; try with_reducible rfl
            simp only [Act.put, List.setIfInBounds_toArray, List.set_cons_zero, List.set_cons_succ]
            refine wpAny_take (i := 15) (oi := { dst := some 118, op := Op.binOp BinOp.add 103 (Operand.tmp 116) (Operand.tmp 117) 103, type := 103, pos := "ref.go:48", after := #[{ on := 13, ground := Ground.data }, { on := 14, ground := Ground.data }], guard := none }) (v := ?vx14_15) rfl (by kernel_rfl) (by kernel_rfl) (by kernel_rfl) (fun _ _ _ h => h) (Or.inl ⟨by rfl, ?yx14_15⟩) ?tx14_15
            case yx14_15 => intro w; go_simp; try with_reducible rfl
            simp only [Act.put, List.setIfInBounds_toArray, List.set_cons_zero, List.set_cons_succ]
            refine wpAny_ready (rs := [16]) (by kernel_rfl) (by simp) ?_
            refine AllReady.cons (o := { dst := some 119, op := Op.buildSlice 104 1 #[(0, Operand.tmp 118)], type := 104, pos := "ref.go:48", after := #[{ on := 15, ground := Ground.data }], guard := none }) rfl (fun K hK => ?_) AllReady.nil
            go_simp
            refine hK _ _ ?_
            clear hK K
            refine wpAny_ready (rs := [17]) (by kernel_rfl) (by simp) ?_
            refine AllReady.cons (o := { dst := some 120, op := Op.call { callee := Callee.builtin Go.Builtin.append, args := #[Operand.tmp 103, Operand.tmp 119], argTypes := #[104, 104] }, type := 104, pos := "ref.go:48", after := #[{ on := 0, ground := Ground.data }, { on := 16, ground := Ground.data }], guard := none }) rfl (fun K hK => ?_) AllReady.nil
            refine step_append_lies _ (by rfl) _ _ _ (by rfl) w.heap.size 103 i0 _ 1 4 Tryd.underlying104 hi0 hz0 hz1 hz2 rfl (by omega) _ k (wordsV ws) (by rfl) ((HOWN.out.alloc _).drew) ⟨w9.heap.size, 0, none⟩ 1 1 [.int .u32 (wv (a16 + Sha.s0 a15 + a7 + Sha.s1 a2))] (by rfl) (by rfl) (World.news_of_block (cs := #[.int .u32 (wv (a16 + Sha.s0 a15 + a7 + Sha.s1 a2))]) (t := 103) (fr := (0, 0)) (heap_alloc_new w9 _)) (by simp [Value.oneCell']) (by omega) (by unfold maxLen; omega) (by omega) (by have := HB9.out.size; simp; omega) (w9.heap.size + 1) (by simp) ?_
            intro gg cap w2 hown2 hgrow hat hlt2
            refine hK _ _ ?_
            clear hK K
            refine wpAny_take (i := 18) (oi := { dst := some 5, op := Op.assign (Operand.tmp 120), type := 104, pos := "ref.go:48", after := #[{ on := 17, ground := Ground.data }, { on := 17, ground := Ground.chain }, { on := 0, ground := Ground.phase }, { on := 1, ground := Ground.phase }, { on := 2, ground := Ground.phase }, { on := 3, ground := Ground.phase }, { on := 4, ground := Ground.phase }, { on := 5, ground := Ground.phase }, { on := 6, ground := Ground.phase }, { on := 7, ground := Ground.phase }, { on := 8, ground := Ground.phase }, { on := 9, ground := Ground.phase }, { on := 10, ground := Ground.phase }, { on := 11, ground := Ground.phase }, { on := 12, ground := Ground.phase }, { on := 13, ground := Ground.phase }, { on := 14, ground := Ground.phase }, { on := 15, ground := Ground.phase }, { on := 16, ground := Ground.phase }, { on := 17, ground := Ground.phase }], guard := none }) (v := ?vx15_18) rfl (by kernel_rfl) (by kernel_rfl) (by kernel_rfl) (fun _ _ _ h => h) (Or.inl ⟨by rfl, ?yx15_18⟩) ?tx15_18
            case yx15_18 => intro w; go_simp; try with_reducible rfl
            simp only [Act.put, List.setIfInBounds_toArray, List.set_cons_zero, List.set_cons_succ]
            refine wpAny_done (by kernel_rfl) ?_ _
            have HO := Lib.hid (And.intro (WOwn.snoc HLN.out hown2) (((HB9.out.alloc HB9.out.size _).drew).grown hgrow (by have := HB9.out.size; simp; omega) (fun k e => (World.ownsRow.lt HOWN.out k e).1)))
            clear hown2 hgrow hat hlt2
            go_wp2_with fail
            go_roundw
            case rel => exact ⟨k + 1, by omega, by omega, by go_num, Lib.hid (by rw [HN.out]; exact HO.out)⟩
            case measure => simp [intOf]; omega
          refine AllReady.cons (o := { dst := some 115, op := Op.load 103 (Operand.tmp 114), type := 103, pos := "ref.go:48", after := #[{ on := 11, ground := Ground.data }], guard := none }) rfl (fun K hK => ?_) AllReady.nil
          go_simp
          refine hK _ _ ?_
          clear hK K
          refine wpAny_ready (rs := [5]) (by kernel_rfl) (by simp) ?_
          refine AllReady.cons (o := { dst := some 108, op := Op.load 103 (Operand.tmp 107), type := 103, pos := "ref.go:48", after := #[{ on := 4, ground := Ground.data }], guard := none }) rfl (fun K hK => ?_) AllReady.nil
          go_simp
          refine hK _ _ ?_
          clear hK K
          refine wpAny_take (i := 7) (oi := { dst := some 110, op := Op.binOp BinOp.add 103 (Operand.tmp 108) (Operand.tmp 109) 103, type := 103, pos := "ref.go:48", after := #[{ on := 5, ground := Ground.data }, { on := 6, ground := Ground.data }], guard := none }) (v := ?vx16_7) rfl (by kernel_rfl) (by kernel_rfl) (by kernel_rfl) (fun _ _ _ h => h) (Or.inl ⟨by rfl, ?yx16_7⟩) ?tx16_7
          case yx16_7 => intro w; go_simp; try with_reducible rfl
          simp only [Act.put, List.setIfInBounds_toArray, List.set_cons_zero, List.set_cons_succ]
          refine wpAny_take (i := 13) (oi := { dst := some 116, op := Op.binOp BinOp.add 103 (Operand.tmp 110) (Operand.tmp 115) 103, type := 103, pos := "ref.go:48", after := #[{ on := 7, ground := Ground.data }, { on := 12, ground := Ground.data }], guard := none }) (v := ?vx17_13) rfl (by kernel_rfl) (by kernel_rfl) (by kernel_rfl) (fun _ _ _ h => h) (Or.inl ⟨by rfl, ?yx17_13⟩) ?tx17_13
          case yx17_13 => intro w; go_simp; try with_reducible rfl
          simp only [Act.put, List.setIfInBounds_toArray, List.set_cons_zero, List.set_cons_succ]
          refine wpAny_take (i := 15) (oi := { dst := some 118, op := Op.binOp BinOp.add 103 (Operand.tmp 116) (Operand.tmp 117) 103, type := 103, pos := "ref.go:48", after := #[{ on := 13, ground := Ground.data }, { on := 14, ground := Ground.data }], guard := none }) (v := ?vx18_15) rfl (by kernel_rfl) (by kernel_rfl) (by kernel_rfl) (fun _ _ _ h => h) (Or.inl ⟨by rfl, ?yx18_15⟩) ?tx18_15
          case yx18_15 => intro w; go_simp; try with_reducible rfl
          simp only [Act.put, List.setIfInBounds_toArray, List.set_cons_zero, List.set_cons_succ]
          refine wpAny_ready (rs := [16]) (by kernel_rfl) (by simp) ?_
          refine AllReady.cons (o := { dst := some 119, op := Op.buildSlice 104 1 #[(0, Operand.tmp 118)], type := 104, pos := "ref.go:48", after := #[{ on := 15, ground := Ground.data }], guard := none }) rfl (fun K hK => ?_) AllReady.nil
          go_simp
          refine hK _ _ ?_
          clear hK K
          refine wpAny_ready (rs := [17]) (by kernel_rfl) (by simp) ?_
          refine AllReady.cons (o := { dst := some 120, op := Op.call { callee := Callee.builtin Go.Builtin.append, args := #[Operand.tmp 103, Operand.tmp 119], argTypes := #[104, 104] }, type := 104, pos := "ref.go:48", after := #[{ on := 0, ground := Ground.data }, { on := 16, ground := Ground.data }], guard := none }) rfl (fun K hK => ?_) AllReady.nil
          refine step_append_lies _ (by rfl) _ _ _ (by rfl) w.heap.size 103 i0 _ 1 4 Tryd.underlying104 hi0 hz0 hz1 hz2 rfl (by omega) _ k (wordsV ws) (by rfl) ((HOWN.out.alloc _).drew) ⟨w9.heap.size, 0, none⟩ 1 1 [.int .u32 (wv (a16 + Sha.s0 a15 + a7 + Sha.s1 a2))] (by rfl) (by rfl) (World.news_of_block (cs := #[.int .u32 (wv (a16 + Sha.s0 a15 + a7 + Sha.s1 a2))]) (t := 103) (fr := (0, 0)) (heap_alloc_new w9 _)) (by simp [Value.oneCell']) (by omega) (by unfold maxLen; omega) (by omega) (by have := HB9.out.size; simp; omega) (w9.heap.size + 1) (by simp) ?_
          intro gg cap w2 hown2 hgrow hat hlt2
          refine hK _ _ ?_
          clear hK K
          refine wpAny_take (i := 18) (oi := { dst := some 5, op := Op.assign (Operand.tmp 120), type := 104, pos := "ref.go:48", after := #[{ on := 17, ground := Ground.data }, { on := 17, ground := Ground.chain }, { on := 0, ground := Ground.phase }, { on := 1, ground := Ground.phase }, { on := 2, ground := Ground.phase }, { on := 3, ground := Ground.phase }, { on := 4, ground := Ground.phase }, { on := 5, ground := Ground.phase }, { on := 6, ground := Ground.phase }, { on := 7, ground := Ground.phase }, { on := 8, ground := Ground.phase }, { on := 9, ground := Ground.phase }, { on := 10, ground := Ground.phase }, { on := 11, ground := Ground.phase }, { on := 12, ground := Ground.phase }, { on := 13, ground := Ground.phase }, { on := 14, ground := Ground.phase }, { on := 15, ground := Ground.phase }, { on := 16, ground := Ground.phase }, { on := 17, ground := Ground.phase }], guard := none }) (v := ?vx19_18) rfl (by kernel_rfl) (by kernel_rfl) (by kernel_rfl) (fun _ _ _ h => h) (Or.inl ⟨by rfl, ?yx19_18⟩) ?tx19_18
          case yx19_18 => intro w; go_simp; try with_reducible rfl
          simp only [Act.put, List.setIfInBounds_toArray, List.set_cons_zero, List.set_cons_succ]
          refine wpAny_done (by kernel_rfl) ?_ _
          have HO := Lib.hid (And.intro (WOwn.snoc HLN.out hown2) (((HB9.out.alloc HB9.out.size _).drew).grown hgrow (by have := HB9.out.size; simp; omega) (fun k e => (World.ownsRow.lt HOWN.out k e).1)))
          clear hown2 hgrow hat hlt2
          go_wp2_with fail
          go_roundw
          case rel => exact ⟨k + 1, by omega, by omega, by go_num, Lib.hid (by rw [HN.out]; exact HO.out)⟩
          case measure => simp [intOf]; omega
        · as_aux_lemma =>
          have hd64 : decide ((k : Int) < 64) = false := by simp; omega
          obtain rfl : k = 64 := by omega
          have hs : WOwn wr w.heap.size u5 (Sha.sched p) := HR.out.1
          obtain ⟨gw, cw, rfl, hgw1, hgw2, hww⟩ := hs.open (by rw [Sha.sched_length]; omega)
          rw [Sha.sched_length]
          have hwl := Sha.sched_length p
          have hB := HR.out.2
          have HBL := Lib.hid (show Sha.block p s = Sha.plus s (Sha.rounds (Sha.sched p) s 64) from rfl)
          generalize Sha.sched p = ws at *
          have HW := Lib.hid (And.intro (And.intro hww hgw2) (And.intro hB hwl))
          clear HR hs hww hgw1 hgw2 hB hwl hk0 hk hk64
          go_wp2_with fail
          refine (refK_any _).mono ?_
          rintro e w1 ⟨rfl, rfl⟩
          have hbk : Below wr.heap.size wr (wr.alloc (.cells (wordsV Sha.K).toArray 103)) := (Below.refl _ _).alloc (Nat.le_refl _) _
          have hK : WordsAt (wr.alloc (.cells (wordsV Sha.K).toArray 103)) wr.heap.size Sha.K := WordsAt.of_heap (t := 103) (fr := (0, 0)) (heap_alloc_new _ _)
          have hbw : Below w.heap.size w (wr.alloc (.cells (wordsV Sha.K).toArray 103)) := HW.out.2.1.trans (hbk.mono HW.out.2.1.size)
          have hkl : wr.heap.size < (wr.alloc (.cells (wordsV Sha.K).toArray 103)).heap.size := by simp
          have HX := Lib.hid (And.intro (And.intro hK hkl) (And.intro (HW.out.1.1.below hbk HW.out.1.2) (And.intro (Nat.lt_of_lt_of_le HW.out.1.2 hbk.size) hbw)))
          have hnw : ∀ j u, (wordsV s.list)[j]? = some u → (wr.alloc (.cells (wordsV Sha.K).toArray 103)).cell? ((⟨gh, 0, none⟩ : Addr).add j) = some u := (HH.out.1.below hbw HH.out.2).news
          have hwz := hbw.size
          have HNW := Lib.hid hnw
          clear hbk hK hbw hkl hnw
          generalize wr.alloc (.cells (wordsV Sha.K).toArray 103) = V1 at *
          generalize wr.heap.size = gk at *
          go_wp2_with (at_builtin; refine wpList_append_own _ rfl _ _ 104 rfl w.heap.size 103 i0 (.int .u32 0) 1 4 Tryd.underlying104 hi0 hz0 hz1 hz2 rfl (by decide) _ _ _ rfl (World.ownsRow_nil _ _ _ _) ⟨gh, 0, none⟩ 8 ch (wordsV s.list) rfl rfl HNW.out (by intro u hu; unfold wordsV at hu; obtain ⟨y, _, rfl⟩ := List.mem_map.1 hu; simp [Value.oneCell']) (by unfold maxLen; omega) (by omega) hwz ?_; intro v' w4 hown' hgrow _)
          have hb4 : Below V1.heap.size V1 w4 := (Below.refl _ _).grown hgrow (Nat.le_refl _) (fun k e => by cases e)
          have ho4 : WOwn w4 w.heap.size v' s.list := by
            unfold WOwn; rw [show s.list.length = 0 + 8 from rfl]; exact hown'
          obtain ⟨g8, c8, rfl, hg1, hg2, hg3⟩ := ho4.open (by show 0 < 8; omega)
          have hR3 : R3 w w4 gw gk g8 ws (Sha.rounds ws s 0) := ⟨HX.out.2.1.below hb4 HX.out.2.2.1, Nat.lt_of_lt_of_le HX.out.2.2.1 hb4.size, HX.out.1.1.below hb4 HX.out.1.2, Nat.lt_of_lt_of_le HX.out.1.2 hb4.size, hg3, hg2, below_step' HX.out.2.2.2 hb4⟩
          have HR3 := Lib.hid hR3
          have HWL := Lib.hid HW.out.2.2
          clear hown' hgrow hb4 ho4 hg1 hg2 hg3 hR3 HX HNW HW hwz
          go_wp2_with fail
          go_loopw [11, 12] (fun v i wr => ∃ k : Nat, k ≤ 64 ∧ i = .int .i64 k ∧ ∃ g cap, v = .slice (some ⟨g, 0, none⟩) 8 cap ∧ Hid (R3 w wr gw gk g ws (Sha.rounds ws s k))) (fun _ i _ => 64 - (intOf i).toNat)
          case atStart => exact ⟨0, by omega, rfl, g8, c8, rfl, HR3⟩
          case round =>
            clear HR3
            obtain ⟨k, hk, rfl, g, cap, rfl, HR⟩ := hrel
            by_cases hk64 : k < 64
            · as_aux_lemma =>
              have e0 := HR.out.cv 0 (by show _ < 8; omega)
              have e1 := HR.out.cv 1 (by show _ < 8; omega)
              have e2 := HR.out.cv 2 (by show _ < 8; omega)
              have e3 := HR.out.cv 3 (by show _ < 8; omega)
              have e4 := HR.out.cv 4 (by show _ < 8; omega)
              have e5 := HR.out.cv 5 (by show _ < 8; omega)
              have e6 := HR.out.cv 6 (by show _ < 8; omega)
              have e7 := HR.out.cv 7 (by show _ < 8; omega)
              simp only [Sha.St.list, List.getD_cons_zero, List.getD_cons_succ] at e0 e1 e2 e3 e4 e5 e6 e7
              have c1 := HR.out.ck k (by rw [Sha.K_length]; omega)
              have c2 := HR.out.cw k (by rw [HWL.out]; omega)
              have hnext : Sha.rounds ws s (k + 1) = Sha.rnd (Sha.rounds ws s k) (Sha.K.getD k 0) (ws.getD k 0) := rfl
              have HN := Lib.hid hnext
              clear hnext
              generalize Sha.K.getD k 0 = kk at *
              generalize ws.getD k 0 = ww at *
              generalize Sha.rounds ws s k = st at *
              have g1 := wv_xor (rotW st.e 6) (rotW st.e 11)
              have g2 : bits .xor .u32 (wv (rotW st.e 6 ^^^ rotW st.e 11)) (wv (rotW st.e 25)) = wv (Sha.S1 st.e) := wv_xor _ _
              have g3 := wv_add' st.h (Sha.S1 st.e)
              have g4 := wv_and st.e st.f
              have g5 : bits .xor .u32 (if IntKind.u32.signed = true then -1 else IntKind.u32.max) (wv st.e) = wv (~~~st.e) := wv_not _
              have g6 := wv_and (~~~st.e) st.g
              have g7 : bits .xor .u32 (wv (st.e &&& st.f)) (wv (~~~st.e &&& st.g)) = wv (Sha.ch st.e st.f st.g) := wv_xor _ _
              have g8 := wv_add' (st.h + Sha.S1 st.e) (Sha.ch st.e st.f st.g)
              have g9 := wv_add' (st.h + Sha.S1 st.e + Sha.ch st.e st.f st.g) kk
              have g10 : IntKind.u32.wrap (wv (st.h + Sha.S1 st.e + Sha.ch st.e st.f st.g + kk) + wv ww) = wv (Sha.tW st kk ww) := wv_add' _ _
              have hk0 : (k : Int) < 64 := by omega
              go_wp2_with fail
              go_quiet ((go_at_call 83; exact refRot_q _ _ _ _ (by decide) (by decide)))
              clear g1 g2 g3 g4 g5 g6 g7 g8 g9 g10 c1 c2
              have g1 := wv_xor (rotW st.a 2) (rotW st.a 13)
              have g2 : bits .xor .u32 (wv (rotW st.a 2 ^^^ rotW st.a 13)) (wv (rotW st.a 22)) = wv (Sha.S0 st.a) := wv_xor _ _
              have g3 := wv_and st.a st.b
              have g4 := wv_and st.a st.c
              have g5 := wv_xor (st.a &&& st.b) (st.a &&& st.c)
              have g6 := wv_and st.b st.c
              have g7 : bits .xor .u32 (wv (st.a &&& st.b ^^^ st.a &&& st.c)) (wv (st.b &&& st.c)) = wv (Sha.maj st.a st.b st.c) := wv_xor _ _
              have g8 : IntKind.u32.wrap (wv (Sha.S0 st.a) + wv (Sha.maj st.a st.b st.c)) = wv (Sha.uW st) := wv_add' _ _
              go_wp2_with fail
              go_quiet ((go_at_call 83; exact refRot_q2 _ _ _ _ _ (by decide) (by decide)))
              clear g1 g2 g3 g4 g5 g6 g7 g8
              have g9 := wv_add' (Sha.tW st kk ww) (Sha.uW st)
              have g10 := wv_add' st.d (Sha.tW st kk ww)
              go_wp2_with fail
              generalize hw9 : (wr.drewN _).drewN _ = w9
              have e1' : w9.cell? ⟨g, 1, none⟩ = some (.int .u32 (wv st.b)) := by rw [← hw9]; exact e1
              have e2' : w9.cell? ⟨g, 2, none⟩ = some (.int .u32 (wv st.c)) := by rw [← hw9]; exact e2
              have e3' : w9.cell? ⟨g, 3, none⟩ = some (.int .u32 (wv st.d)) := by rw [← hw9]; exact e3
              have e5' : w9.cell? ⟨g, 5, none⟩ = some (.int .u32 (wv st.f)) := by rw [← hw9]; exact e5
              have e6' : w9.cell? ⟨g, 6, none⟩ = some (.int .u32 (wv st.g)) := by rw [← hw9]; exact e6
              have H9 : Hid (Below wr.heap.size wr w9) := Lib.hid (by rw [← hw9]; exact below_drewN (below_drewN (Below.refl _ _) _) _)
              clear hw9 e0 e1 e2 e3 e4 e5 e6 e7
              have hrl : (wordsV (Sha.rnd st kk ww).list) = [.int .u32 (wv (Sha.tW st kk ww + Sha.uW st)), .int .u32 (wv st.a), .int .u32 (wv st.b), .int .u32 (wv st.c), .int .u32 (wv (st.d + Sha.tW st kk ww)), .int .u32 (wv st.e), .int .u32 (wv st.f), .int .u32 (wv st.g)] := rfl
              have HRL := Lib.hid hrl
              clear hrl
              generalize Sha.tW st kk ww + Sha.uW st = y0 at *
              generalize st.d + Sha.tW st kk ww = y4 at *
              generalize Sha.tW st kk ww = tw at *
              generalize Sha.uW st = uw at *
              generalize Sha.rnd st kk ww = st2 at *
              generalize st.a = ya at *
              generalize st.b = yb at *
              generalize st.c = yc at *
              generalize st.e = ye at *
              generalize st.f = yf at *
              generalize st.g = yg at *
              generalize wv y0 = z0 at *
              generalize wv y4 = z4 at *
              generalize wv ya = za at *
              generalize wv yb = zb at *
              generalize wv yc = zc at *
              generalize wv ye = ze at *
              generalize wv yf = zf at *
              generalize wv yg = zg at *
              go_still_tail 22, (by kernel_rfl)
              change wpList _ _ _ _ _ w9.drew
              clear e1' e2' e3' e5' e6' g9 g10
              refine wpList_buildSlice rfl 104 103 8 _ rfl #[.int .u32 z0, .int .u32 za, .int .u32 zb, .int .u32 zc, .int .u32 z4, .int .u32 ze, .int .u32 zf, .int .u32 zg] i0 (.int .u32 0) Tryd.underlying104 hi0 hz0 (by rw [hz1]; decide) (by rw [hz1]; decide) (by rw [hz1]; simp only [List.map_toArray, List.map_cons, List.map_nil]; exact fill8 z0 za zb zc z4 ze zf zg) ?_
              go_wp2_with fail
              have hobj : w9.alloc (.cells #[.int .u32 z0, .int .u32 za, .int .u32 zb, .int .u32 zc, .int .u32 z4, .int .u32 ze, .int .u32 zf, .int .u32 zg] 103) = w9.alloc (.cells (wordsV st2.list).toArray 103) := by rw [HRL.out]
              rw [hobj]
              have hbn : Below w9.heap.size w9 ((w9.alloc (.cells (wordsV st2.list).toArray 103)).drew) := ((Below.refl _ _).alloc (Nat.le_refl _) _).drew
              have hvn : WordsAt ((w9.alloc (.cells (wordsV st2.list).toArray 103)).drew) w9.heap.size st2.list := WordsAt.of_heap (t := 103) (fr := (0, 0)) (heap_alloc_new _ _)
              have hR4 := (HR.out.step H9.out).step hbn
              have hR5 : R3 w ((w9.alloc (.cells (wordsV st2.list).toArray 103)).drew) gw gk w9.heap.size ws (Sha.rounds ws s (k + 1)) := ⟨hR4.cw, hR4.hw, hR4.ck, hR4.hk, by rw [HN.out]; exact hvn, by show w9.heap.size < (w9.alloc _).heap.size; rw [World.size_alloc]; omega, hR4.bel⟩
              have H5 := Lib.hid hR5
              clear hbn hvn hR4 hR5 hobj
              go_roundw
              case rel => exact ⟨k + 1, by omega, by go_num, w9.heap.size, 8, rfl, H5⟩
              case measure => simp [intOf]; omega
            · as_aux_lemma =>
              have hd64 : decide ((k : Int) < 64) = false := by simp; omega
              have hRk : Sha.rounds ws s k = Sha.rounds ws s 64 := by rw [show k = 64 by omega]
              rw [hRk] at HR
              generalize Sha.rounds ws s 64 = R at *
              clear hk hk64 hRk
              go_wp2_with fail
              obtain ⟨W0, hW0⟩ : ∃ W, W = wr := ⟨_, rfl⟩
              rw [← hW0] at HR ⊢
              clear hW0 hd64
              go_loopw [17, 18] (fun v i wr => ∃ k : Nat, k ≤ 8 ∧ i = .int .i64 k ∧ WOwn wr W0.heap.size v ((Sha.plus s R).list.take k) ∧ Below W0.heap.size W0 wr) (fun _ i _ => 8 - (intOf i).toNat)
              case atStart => exact ⟨0, by omega, rfl, World.ownsRow_nil _ _ _ _, Below.refl _ _⟩
              case round =>
                obtain ⟨k, hk, rfl, hown, hB⟩ := hrel
                by_cases hk8 : k < 8
                · as_aux_lemma =>
                  have q1 : wr.cell? ⟨gh, k, none⟩ = some (.int .u32 (wv (s.list.getD k 0))) := ((HH.out.1.below HR.out.bel HH.out.2).below hB (Nat.lt_of_lt_of_le HH.out.2 HR.out.bel.size)) k hk8
                  have q2 : wr.cell? ⟨g, k, none⟩ = some (.int .u32 (wv (R.list.getD k 0))) := (HR.out.cv.below hB HR.out.hv) k hk8
                  have hgh0 : gh < W0.heap.size := Nat.lt_of_lt_of_le HH.out.2 HR.out.bel.size
                  have hg0 := HR.out.hv
                  have hT : (Sha.plus s R).list.take (k + 1) = (Sha.plus s R).list.take k ++ [s.list.getD k 0 + R.list.getD k 0] := by
                    rcases (by omega : k = 0 ∨ k = 1 ∨ k = 2 ∨ k = 3 ∨ k = 4 ∨ k = 5 ∨ k = 6 ∨ k = 7) with rfl | rfl | rfl | rfl | rfl | rfl | rfl | rfl <;> rfl
                  have hlen : ((Sha.plus s R).list.take k).length = k := by rw [List.length_take]; show min k 8 = k; omega
                  have HT := Lib.hid hT
                  have HLN := Lib.hid hlen
                  have hown' : wr.ownsRow W0.heap.size 103 1 u17 k (wordsV ((Sha.plus s R).list.take k)) := by have := hown; unfold WOwn at this; rwa [hlen] at this
                  have hlt := fun k e => (hown.lt k e).1
                  have hap : u17.ownBlock ≠ some gh := fun e => by have := hlt gh e; omega
                  have hap2 : u17.ownBlock ≠ some g := fun e => by have := hlt g e; omega
                  have hBs := hB.size
                  clear hT hlen hown
                  generalize (Sha.plus s R).list.take k = l at *
                  generalize s.list.getD k 0 = sk at *
                  generalize R.list.getD k 0 = rk at *
                  have ga := wv_add' sk rk
                  have hk0 : (k : Int) < 8 := by omega
                  go_wp2_with fail
                  go_region_held3 (fun w' => w'.cell? ⟨gh, k, none⟩ = some (.int .u32 (wv sk)) ∧ w'.cell? ⟨g, k, none⟩ = some (.int .u32 (wv rk)))
                    (refine ⟨?_, ?_⟩ <;> first | (rw [hgrow.cell_far _ (by simp; omega) (Ne.symm hap)]; go_split_ands; assumption) | (rw [hgrow.cell_far _ (by simp; omega) (Ne.symm hap2)]; go_split_ands; assumption) | (go_split_ands; assumption) | go_keep)
                    ((refine step_append_lies _ (by rfl) _ _ _ (by rfl) W0.heap.size 103 i0 _ 1 4 Tryd.underlying104 hi0 hz0 hz1 hz2 rfl (by omega) u17 k (wordsV l) (by rfl) ((hown'.alloc _).drew)
                        ⟨wr.heap.size, 0, none⟩ 1 1 [.int .u32 (wv (sk + rk))] (by rfl) (by rfl) (World.news_of_block (cs := #[.int .u32 (wv (sk + rk))]) (t := 103) (fr := (0, 0)) (heap_alloc_new wr _)) (by simp [Value.oneCell'])
                        (by omega) (by unfold maxLen; omega) (by omega) (by simp; omega) (wr.heap.size + 1) (by simp) ?_; intro gg cap w2 hown2 hgrow hat hlt2))
                  have hb2 : Below W0.heap.size W0 w2 := ((hB.alloc hBs _).drew).grown hgrow (by simp; omega) hlt
                  have HO := Lib.hid (And.intro (WOwn.snoc HLN.out hown2) hb2)
                  clear hown2 hgrow hat hb2
                  go_wp2_with fail
                  go_roundw
                  case rel => exact ⟨k + 1, by omega, by go_num, by rw [HT.out]; exact HO.out.1, HO.out.2⟩
                  case measure => simp [intOf]; omega
                · as_aux_lemma =>
                  have hd8 : decide ((k : Int) < 8) = false := by simp; omega
                  have hke : (Sha.plus s R).list.take k = (Sha.plus s R).list := by rw [show k = 8 by omega]; rfl
                  rw [hke] at hown
                  have HO := Lib.hid (And.intro hown hB)
                  clear hown hB hke hk hk8
                  go_wp2_with fail
                  go_ret
                  rw [HBL.out]
                  exact ⟨⟨_, rfl, HO.out.1.mono HR.out.bel.size⟩, HR.out.bel.trans (HO.out.2.mono HR.out.bel.size)⟩
end Go.Proofs.YtihohjgjklcnlaaDoor.Wb

namespace Go.Proofs.YtihohjgjklcnlaaDoor.Wb
open Go.RowKit Tree

theorem BOwn.open {w : World} {base n : Nat} {v : Value} {l : List UInt8} (h : w.ownsRow base 5 1 v n (bytesV l)) (_ : l.length = n) (hl : 0 < n) : ∃ g cap, v = .slice (some ⟨g, 0, none⟩) n cap ∧ base ≤ g ∧ g < w.heap.size ∧ n ≤ cap ∧ cap ≤ maxLen ∧ PartAt w g 0 l := by
  obtain ⟨h1, ⟨rfl, h2⟩ | ⟨g, cap, cur, rfl, h2, h3, h4, h5, h6, h7⟩⟩ := h
  · omega
  · have hrow : w.ownsRow base 5 1 (.slice (some ⟨g, 0, none⟩) n cap) n (bytesV l) := ⟨h1, .inr ⟨g, cap, cur, rfl, h2, h3, h4, h5, h6, h7⟩⟩
    refine ⟨g, cap, rfl, h2, (Array.getElem?_eq_some_iff.1 h3).1, h4, h5, fun i hi => ?_⟩
    have := hrow.cells (g := g) rfl i _ (bytesV_at l i hi)
    rwa [show (⟨g, 0, none⟩ : Addr).add i = ⟨g, 0 + i, none⟩ by cases i <;> simp [Addr.add]] at this

theorem out_wrap (y : Wd) : IntKind.u8.wrap (wv y) = wv (bw (ob y)) := by rw [IntKind.wrap_u8]; exact out_byte y
theorem PartAt.blk {w : World} {g : Nat} {p : List UInt8} (h : PartAt w g 0 p) (j : Nat) (hj : 64 * j + 64 ≤ p.length) : PartAt w g (64 * j) (Sha.blk p j) := fun i hi => by
  have hl : (Sha.blk p j).length = 64 := by unfold Sha.blk; rw [List.length_take, List.length_drop]; omega
  have := h (64 * j + i) (by omega)
  rw [show 0 + (64 * j + i) = 64 * j + i by omega] at this
  rw [this]
  unfold Sha.blk
  rw [List.getD, List.getD, List.getElem?_take_of_lt (by omega), List.getElem?_drop]
/-- What stays while the blocks are taken: the eight words, the padded bytes. -/
structure SumAt (w wr : World) (g gp : Nat) (p : List UInt8) (st : Sha.St) : Prop where
  cv : WordsAt wr g st.list
  hv : g < wr.heap.size
  cp : PartAt wr gp 0 p
  hp : gp < wr.heap.size
  bel : Below w.heap.size w wr

set_option maxRecDepth 100000 in
set_option maxHeartbeats 4000000 in
theorem refSum_any (s : ByteArray) (w : World) (hs : s.size ≤ 2000) : Calls Tryd.prog 23 #[.string s] w (StrEnd (Sha.shaS s) w) := by
  obtain ⟨i0, hi0, hz0, hz1, hz2⟩ := info_parts info_u8
  have hE := fun w => refExt_any s w hs
  have hpw := Sha.pad_whole s.data.toList
  have hpl : (Sha.pad s.data.toList).length ≤ 2100 := by
    rw [Sha.pad_length]; have : s.data.toList.length = s.size := by simp
    unfold Sha.padZ; omega
  have hSS : Sha.shaS s = ⟨(Sha.outB (Sha.after (Sha.pad s.data.toList) ((Sha.pad s.data.toList).length / 64))).toArray⟩ := rfl
  have h9 : 0 < (Sha.pad s.data.toList).length := by rw [Sha.pad_length]; omega
  have hini : (wordsV Sha.init.list) = [.int .u32 1779033703, .int .u32 3144134277, .int .u32 1013904242, .int .u32 2773480762, .int .u32 1359893119, .int .u32 2600822924, .int .u32 528734635, .int .u32 1541459225] := rfl
  have HIN := Lib.hid hini
  generalize Sha.pad s.data.toList = p at *
  obtain ⟨m, hm⟩ : ∃ m, p.length / 64 = m := ⟨_, rfl⟩
  rw [hm] at hSS hpw
  have HSS := Lib.hid hSS
  have HE := Lib.hid hE
  clear hE hSS hini hm
  go_enter Tryd.func23, Tryd.ntmps23
  go_wp2_with fail
  refine (HE.out _).mono ?_
  rintro e w1 ⟨⟨v, rfl, hown⟩, hb1⟩
  obtain ⟨gp, cp, rfl, hg1, hg2, hg3, hg4, hpc⟩ := BOwn.open hown rfl h9
  unfold maxLen at hg4
  have hw8 : WordsAt (w.alloc (.cells #[.int .u32 1779033703, .int .u32 3144134277, .int .u32 1013904242, .int .u32 2773480762, .int .u32 1359893119, .int .u32 2600822924, .int .u32 528734635, .int .u32 1541459225] 103)) w.heap.size Sha.init.list := by
    refine WordsAt.of_heap (t := 103) (fr := (0, 0)) ?_
    rw [HIN.out]; exact heap_alloc_new _ _
  have HS := Lib.hid (show SumAt w w1 w.heap.size gp p (Sha.after p 0) from ⟨hw8.below hb1 (by simp), Nat.lt_of_lt_of_le (by simp) hb1.size, hpc, hg2, ((Below.refl _ _).alloc (Nat.le_refl _) _).trans (hb1.mono (by simp))⟩)
  have HPL := Lib.hid hpw
  clear hown hb1 hg1 hg2 hpc hw8 HE HIN hpw
  go_wp2_with fail
  go_loopw [3, 5] (fun v i wr => ∃ q : Nat, i = .int .i64 q ∧ ∃ g cap, v = .slice (some ⟨g, 0, none⟩) 8 cap ∧ Hid (∃ j, q = 64 * j ∧ j ≤ m ∧ SumAt w wr g gp p (Sha.after p j))) (fun _ i _ => p.length - (intOf i).toNat)
  case atStart => exact ⟨0, rfl, _, _, rfl, Lib.hid ⟨0, rfl, by omega, HS.out⟩⟩
  case round =>
    clear HS
    obtain ⟨q, rfl, g, cap, rfl, HR⟩ := hrel
    by_cases hq : q < p.length
    · as_aux_lemma =>
      obtain ⟨j, hqj, hjm, hS⟩ := HR.out
      have hj1 : 64 * j + 64 ≤ p.length := by have := HPL.out; omega
      have hbl : (Sha.blk p j).length = 64 := by unfold Sha.blk; rw [List.length_take, List.length_drop]; omega
      have hc := refBlock_any g cap gp q (cp - q) (Sha.blk p j) (Sha.after p j) wr hbl hS.hv hS.cv hS.hp (by rw [hqj]; exact hS.cp.blk j hj1)
      have HC := Lib.hid hc
      have HS := Lib.hid hS
      have HJ := Lib.hid (And.intro hqj (And.intro hjm hj1))
      have q1 : (q : Int) < (p.length : Int) := by omega
      have q2 : (q : Int) + 64 ≤ (p.length : Int) := by omega
      have q3 : (q : Int) + 64 ≤ (cp : Int) := by omega
      have q4 : (q : Int) ≤ (q : Int) + 64 := by omega
      have q5 : 0 ≤ (q : Int) := by omega
      clear hc hS hqj hjm hj1 hbl HR
      go_wp2_with fail
      refine HC.out.mono ?_
      rintro e w2 ⟨⟨v, rfl, ho⟩, hb2⟩
      obtain ⟨g2, c2, rfl, hga, hgb, hgc⟩ := WOwn.open ho (by show 0 < 8; omega)
      have H2 := Lib.hid (show SumAt w w2 g2 gp p (Sha.after p (j + 1)) from ⟨hgc, hgb, HS.out.cp.below hb2 HS.out.hp, Nat.lt_of_lt_of_le HS.out.hp hb2.size, below_step' HS.out.bel hb2⟩)
      clear ho hb2 hga hgb hgc HC HS
      go_wp2_with fail
      go_roundw
      case rel => exact ⟨q + 64, by go_num, _, _, rfl, Lib.hid ⟨j + 1, by have := HJ.out; omega, by have := HJ.out; have := HPL.out; omega, H2.out⟩⟩
      case measure => simp [intOf]; omega
    · as_aux_lemma =>
      have hqd : decide (q < p.length) = false := by simp; omega
      obtain ⟨j, hqj, hjm, hS⟩ := HR.out
      obtain rfl : j = m := by have := HPL.out; omega
      have HS := Lib.hid hS
      clear HR hqj hjm hS hq HPL
      generalize Sha.after p j = R at *
      go_wp2_with fail
      obtain ⟨W0, hW0⟩ : ∃ W, W = wr := ⟨_, rfl⟩
      rw [← hW0] at HS ⊢
      clear hW0 hqd
      go_loopw [6, 7] (fun v i wr => ∃ k : Nat, k ≤ 8 ∧ i = .int .i64 k ∧ wr.ownsRow W0.heap.size 5 1 v (4 * k) (bytesV ((Sha.outB R).take (4 * k))) ∧ Below W0.heap.size W0 wr) (fun _ i _ => 8 - (intOf i).toNat)
      case atStart => exact ⟨0, by omega, rfl, World.ownsRow_nil _ _ _ _, Below.refl _ _⟩
      case round =>
        obtain ⟨k, hk, rfl, hown, hB⟩ := hrel
        by_cases hk8 : k < 8
        · as_aux_lemma =>
          obtain ⟨y, hy⟩ : ∃ y, y = R.list.getD k 0 := ⟨_, rfl⟩
          have htk : (Sha.outB R).take (4 * (k + 1)) = (Sha.outB R).take (4 * k) ++ Sha.beBytes y := by
            rw [hy]
            match k, hk8 with
            | 0, _ => rfl
            | 1, _ => rfl
            | 2, _ => rfl
            | 3, _ => rfl
            | 4, _ => rfl
            | 5, _ => rfl
            | 6, _ => rfl
            | 7, _ => rfl
          have q1 : wr.cell? ⟨g, k, none⟩ = some (.int .u32 (wv y)) := by rw [hy]; exact (HS.out.cv.below hB HS.out.hv) k hk8
          have hg0 := HS.out.hv
          have hlt := fun k e => (hown.lt k e).1
          have hap : u6.ownBlock ≠ some g := fun e => by have := hlt g e; omega
          have hBs := hB.size
          have HTK := Lib.hid htk
          clear htk hy
          generalize (Sha.outB R).take (4 * k) = l at *
          have hk0 : (k : Int) < 8 := by omega
          have s1 := wv_shrk y 24 16777216 rfl
          have s2 := wv_shrk y 16 65536 rfl
          have s3 := wv_shrk y 8 256 rfl
          have o1 := out_wrap (y >>> 24)
          have o2 := out_wrap (y >>> 16)
          have o3 := out_wrap (y >>> 8)
          have o4 := out_wrap y
          have m1 := out_byte (y >>> 24)
          have m2 := out_byte (y >>> 16)
          have m3 := out_byte (y >>> 8)
          have m4 := out_byte y
          go_wp2_with fail
          go_region_held3 (fun w' => w'.cell? ⟨g, k, none⟩ = some (.int .u32 (wv y)))
            (first | (rw [hgrow.cell_far _ (by simp; omega) (Ne.symm hap)]; assumption) | assumption | go_keep)
            ((refine step_append_lies _ (by rfl) _ _ _ (by rfl) W0.heap.size 5 i0 _ 1 1 Tryd.underlying65 hi0 hz0 hz1 hz2 rfl (by omega) u6 (4 * k) (bytesV l) (by rfl) ((hown.alloc _).drew)
                ⟨wr.heap.size, 0, none⟩ 4 4 [.int .u8 (wv (bw (ob (y >>> 24)))), .int .u8 (wv (bw (ob (y >>> 16)))), .int .u8 (wv (bw (ob (y >>> 8)))), .int .u8 (wv (bw (ob y)))] (by rfl) (by rfl) (World.news_of_block (cs := #[.int .u8 (wv (bw (ob (y >>> 24)))), .int .u8 (wv (bw (ob (y >>> 16)))), .int .u8 (wv (bw (ob (y >>> 8)))), .int .u8 (wv (bw (ob y)))]) (t := 5) (fr := (0, 0)) (heap_alloc_new wr _)) (by simp [Value.oneCell'])
                (by omega) (by unfold maxLen; omega) (by omega) (by simp; omega) (wr.heap.size + 1) (by simp) ?_; intro gg cap w2 hown2 hgrow hat hlt2))
          have hb2 : Below W0.heap.size W0 w2 := ((hB.alloc hBs _).drew).grown hgrow (by simp; omega) hlt
          have ho6 : w2.ownsRow W0.heap.size 5 1 (.slice (some ⟨gg, 0, none⟩) (4 * (k + 1)) cap) (4 * (k + 1)) (bytesV ((Sha.outB R).take (4 * (k + 1)))) := by
            rw [HTK.out]; unfold bytesV at hown2 ⊢; rw [List.map_append]; exact hown2
          have HO := Lib.hid (And.intro ho6 hb2)
          clear hown2 hgrow hat hb2 ho6
          go_wp2_with fail
          go_roundw
          case rel => exact ⟨k + 1, by omega, by go_num, HO.out.1, HO.out.2⟩
          case measure => simp [intOf]; omega
        · as_aux_lemma =>
          have hd8 : decide ((k : Int) < 8) = false := by simp; omega
          have hown8 : wr.ownsRow W0.heap.size 5 1 u6 32 (bytesV (Sha.outB R)) := by
            have := hown; rw [show k = 8 by omega] at this; exact this
          obtain ⟨g8, cap8, rfl, hconv⟩ := row_text hown8 (Sha.outB_length R) (by omega)
          have HO := Lib.hid (below_step' HS.out.bel hB)
          clear hown hown8 hB hk hk8
          go_wp2_with fail
          go_ret
          rw [HSS.out]
          exact ⟨rfl, HO.out⟩
theorem refSum_is : RefSum := ⟨fun s w hs => refSum_any s w hs⟩
end Go.Proofs.YtihohjgjklcnlaaDoor.Wb
