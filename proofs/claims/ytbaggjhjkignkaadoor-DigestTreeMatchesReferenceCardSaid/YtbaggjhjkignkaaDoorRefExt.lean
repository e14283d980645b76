/-
  The reference's extended: the padded string's bytes.
-/
import Derived.Test.YtbaggjhjkignkaaDoorRefS
import Derived.Test.YtbaggjhjkignkaaDoorPad
namespace Go.Proofs.YtbaggjhjkignkaaDoor
open Go.RowKit Tree

/-- The last k of the eight bytes for the length, the first ones first. -/
def lastB (n t : Nat) : List UInt8 := ([7, 6, 5, 4, 3, 2, 1, 0].take t).map fun i => UInt8.ofNat (8 * n / 2 ^ (8 * i))
theorem take8 : ∀ t : Fin 8, ([7, 6, 5, 4, 3, 2, 1, 0] : List Nat).take (t.val + 1) = ([7, 6, 5, 4, 3, 2, 1, 0] : List Nat).take t.val ++ [7 - t.val] := by decide
theorem lastB_succ (n t : Nat) (h : t < 8) : lastB n (t + 1) = lastB n t ++ [UInt8.ofNat (8 * n / 2 ^ (8 * (7 - t)))] := by
  unfold lastB
  rw [take8 ⟨t, h⟩, List.map_append]
  rfl
theorem lastB_length (n t : Nat) (h : t ≤ 8) : (lastB n t).length = t := by
  unfold lastB
  rw [List.length_map, List.length_take]
  show min t 8 = t
  omega

theorem bytesV_snoc (l : List UInt8) (b : UInt8) : bytesV (l ++ [b]) = bytesV l ++ [.int .u8 (wv (bw b))] := by unfold bytesV; rw [List.map_append]; rfl

set_option maxRecDepth 100000 in
set_option maxHeartbeats 1000000 in
theorem refExt_any (s : ByteArray) (w : World) (hs : s.size ≤ 2000) :
    Calls Tryd.prog 28 #[.string s] w fun e w' => (∃ v, e = .returned v ∧ w'.ownsRow w.heap.size 5 1 v (Sha.pad s.data.toList).length (bytesV (Sha.pad s.data.toList))) ∧ Below w.heap.size w w' := by
  obtain ⟨i0, hi0, hz0, hz1, hz2⟩ := info_parts info_u8
  go_enter Tryd.func28, Tryd.ntmps28
  go_wp2_with fail
  go_loopw [3, 4] (fun v i wr => ∃ k : Nat, k ≤ s.size ∧ i = .int .i64 k ∧ wr.ownsRow w.heap.size 5 1 v k (bytesV (s.data.toList.take k)) ∧ Below w.heap.size w wr) (fun _ i _ => s.size - (intOf i).toNat)
  case atStart => exact ⟨0, by omega, rfl, World.ownsRow_nil _ _ _ _, Below.refl _ _⟩
  case round =>
    obtain ⟨k, hk, rfl, hown, hbr⟩ := hrel
    by_cases hks : k < s.size
    · have hki : (k : Int) < (s.size : Int) := by omega
      have hlk : k < s.data.toList.length := by rw [Array.length_toList]; exact hks
      have hT : s.data.toList.take (k + 1) = s.data.toList.take k ++ [s[k]] := by
        rw [List.take_succ_eq_append_getElem hlk]; rfl
      have hB := hbr.size
      have hlt := fun k e => (hown.lt k e).1
      have HT := Lib.hid (show bytesV (s.data.toList.take (k + 1)) = bytesV (s.data.toList.take k) ++ [.int .u8 (s[k].toNat : Int)] by rw [hT, bytesV_snoc, wv_bw])
      clear hT
      generalize bytesV (s.data.toList.take k) = R at *
      go_wp2_with (at_builtin; refine wpList_append_own _ rfl _ _ 41 rfl w.heap.size 5 i0 (.int .u8 0) 1 1 Tryd.underlying41 hi0 hz0 hz1 hz2 rfl (by decide) _ _ _ rfl (hown.alloc _) ⟨wr.heap.size, 0, none⟩ 1 1 [.int .u8 (s[k].toNat : Int)] rfl rfl (cell_one_new _ _ _) (by simp [Value.oneCell']) (by unfold maxLen; omega) (by omega) (by simp; omega) ?_; intro v' w4 hown' hgrow _)
      have hb5 : Below w.heap.size w w4 := (hbr.alloc hB _).grown hgrow (by simp; omega) hlt
      go_roundw
      case rel => exact ⟨k + 1, by omega, by go_num, by rw [HT.out]; exact hown', hb5⟩
      case measure => simp [intOf]; omega
    · have hki : ¬ ((k : Int) < (s.size : Int)) := by omega
      obtain rfl : k = s.size := by omega
      rw [List.take_of_length_le (by rw [Array.length_toList]; exact Nat.le_refl _)] at hown
      have hB := hbr.size
      have hlt := fun k e => (hown.lt k e).1
      have hl0 : s.data.toList.length = s.size := Array.length_toList
      obtain ⟨l, hl⟩ : ∃ l, l = s.data.toList := ⟨_, rfl⟩
      rw [← hl] at hown hl0
      have HLL := Lib.hid (And.intro hl hl0)
      clear hl hl0
      go_wp2_with (at_builtin; refine wpList_append_own _ rfl _ _ 41 rfl w.heap.size 5 i0 (.int .u8 0) 1 1 Tryd.underlying41 hi0 hz0 hz1 hz2 rfl (by decide) _ _ _ rfl (hown.alloc _) ⟨wr.heap.size, 0, none⟩ 1 1 [.int .u8 128] rfl rfl (cell_one_new _ _ _) (by simp [Value.oneCell']) (by unfold maxLen; omega) (by omega) (by simp; omega) ?_; intro v' w4 hown' hgrow _; have hb5 : Below w.heap.size w w4 := (hbr.alloc hB _).grown hgrow (by simp; omega) hlt; have hown5 : w4.ownsRow w.heap.size 5 1 v' (s.size + 1) (bytesV (l ++ 128 :: List.replicate (s.size + 1 - s.size - 1) 0)) := (by rw [show s.size + 1 - s.size - 1 = 0 by omega]; show w4.ownsRow w.heap.size 5 1 v' (s.size + 1) (bytesV (l ++ [128])); rw [bytesV_snoc]; exact hown'); have HO := Lib.hid (And.intro hown5 hb5); clear hown hown' hown5 hgrow hbr hlt hb5)
      have hz : Sha.padZ s.size < 64 := by unfold Sha.padZ; omega
      go_loopw [3] (fun v wr => ∃ c : Nat, s.size + 1 ≤ c ∧ c ≤ s.size + 1 + Sha.padZ s.size ∧ wr.ownsRow w.heap.size 5 1 v c (bytesV (l ++ 128 :: List.replicate (c - s.size - 1) 0)) ∧ Below w.heap.size w wr) (fun v _ => match v with | .slice _ m _ => s.size + 1 + Sha.padZ s.size - m | _ => 0)
      case atStart => exact ⟨s.size + 1, by omega, by omega, HO.out.1, HO.out.2⟩
      case round =>
        clear HO
        obtain ⟨c, hc1, hc2, hown, hbr⟩ := hrel
        obtain ⟨g, cap, rfl⟩ : ∃ g cap, u3 = .slice (some ⟨g, 0, none⟩) c cap := by
          obtain ⟨c', rfl⟩ : ∃ c', c = c' + 1 := ⟨c - 1, by omega⟩
          exact ownsRow_succ hown
        have hB := hbr.size
        have hlt := fun k e => (hown.lt k e).1
        by_cases hcz : c < s.size + 1 + Sha.padZ s.size
        · have hne : ((c : Int) % 64 != 56) = true := bne_iff_ne.2 (by unfold Sha.padZ at hcz; omega)
          have hne2 : ((c : Int).tmod 64 != 56) = true := bne_iff_ne.2 (by rw [Int.tmod_eq_emod_of_nonneg (by omega)]; exact bne_iff_ne.1 hne)
          have HCZ := Lib.hid (And.intro hc1 (And.intro hc2 hcz))
          clear hc1 hc2 hcz
          go_wp2_with (at_builtin; refine wpList_append_own _ rfl _ _ 41 rfl w.heap.size 5 i0 (.int .u8 0) 1 1 Tryd.underlying41 hi0 hz0 hz1 hz2 rfl (by decide) _ _ _ rfl (hown.alloc _) ⟨wr.heap.size, 0, none⟩ 1 1 [.int .u8 0] rfl rfl (cell_one_new _ _ _) (by simp [Value.oneCell']) (by have := HCZ.out; unfold maxLen; omega) (by have := HCZ.out; omega) (by simp; omega) ?_; intro v' w4 hown' hgrow _; have hb5 : Below w.heap.size w w4 := (hbr.alloc hB _).grown hgrow (by simp; omega) hlt; have hn : bytesV (l ++ 128 :: List.replicate (c + 1 - s.size - 1) 0) = bytesV (l ++ 128 :: List.replicate (c - s.size - 1) 0) ++ [.int .u8 0] := (by rw [show c + 1 - s.size - 1 = (c - s.size - 1) + 1 by have := HCZ.out; omega, List.replicate_succ', ← List.cons_append, ← List.append_assoc, bytesV_snoc]; rfl); have HN := Lib.hid (And.intro hb5 (hn ▸ hown')); obtain ⟨g5, cap5, rfl⟩ := ownsRow_succ hown'; clear hn hown' hgrow hb5)
          exact ⟨⟨c + 1, by have := HCZ.out; omega, by have := HCZ.out; omega, HN.out.2, HN.out.1⟩, by show s.size + 1 + Sha.padZ s.size - (c + 1) < s.size + 1 + Sha.padZ s.size - c; have := HCZ.out; omega⟩
        · have hce : c = s.size + 1 + Sha.padZ s.size := by omega
          have hne : ((c : Int) % 64 != 56) = false := by rw [hce]; simp; unfold Sha.padZ; omega
          have hcz2 : c - s.size - 1 = Sha.padZ s.size := by omega
          rw [hcz2] at hown
          have HCE := Lib.hid hce
          have hown0 : wr.ownsRow w.heap.size 5 1 (.slice (some ⟨g, 0, none⟩) c cap) (c + 0) (bytesV (l ++ 128 :: List.replicate (Sha.padZ s.size) 0 ++ lastB s.size 0)) := by
            show wr.ownsRow w.heap.size 5 1 (.slice (some ⟨g, 0, none⟩) c cap) c (bytesV (l ++ 128 :: List.replicate (Sha.padZ s.size) 0 ++ []))
            rw [List.append_nil]; exact hown
          have HO := Lib.hid (And.intro hown0 hbr)
          have hcs : c ≤ 2100 := by omega
          clear hown hown0 hbr hB hlt hcz hce hcz2 hc1 hc2
          go_wp2_with fail
          go_loopw [3, 5] (fun v i wr => ∃ t : Nat, t ≤ 8 ∧ i = .int .i64 (7 - (t : Int)) ∧ wr.ownsRow w.heap.size 5 1 v (c + t) (bytesV (l ++ 128 :: List.replicate (Sha.padZ s.size) 0 ++ lastB s.size t)) ∧ Below w.heap.size w wr) (fun _ i _ => (intOf i + 1).toNat)
          case atStart => exact ⟨0, by omega, rfl, HO.out.1, HO.out.2⟩
          case round =>
            clear HO
            obtain ⟨t, ht8, rfl, hown, hbr⟩ := hrel
            have hB := hbr.size
            have hlt := fun k e => (hown.lt k e).1
            by_cases ht : t < 8
            · obtain ⟨q, hq⟩ : ∃ q : Nat, (7 : Int) - (t : Int) = (q : Int) := ⟨7 - t, by omega⟩
              have hls := lastB_succ s.size t ht
              have hqt : 7 - t = q := by omega
              rw [hqt] at hls
              have hbv : bytesV (l ++ 128 :: List.replicate (Sha.padZ s.size) 0 ++ lastB s.size (t + 1)) = bytesV (l ++ 128 :: List.replicate (Sha.padZ s.size) 0 ++ lastB s.size t) ++ [.int .u8 (8 * (s.size : Int) / 2 ^ (8 * q) % 256)] := by
                rw [hls, ← List.append_assoc, bytesV_snoc, len_byte]
              have HBV := Lib.hid hbv
              have HQ := Lib.hid (And.intro hq ht)
              rw [hq]
              have hq7 : q ≤ 7 := by omega
              clear hls hqt hbv hq ht ht8
              generalize bytesV (l ++ 128 :: List.replicate (Sha.padZ s.size) 0 ++ lastB s.size t) = R at *
              go_wp2_with (at_builtin; refine wpList_append_own _ rfl _ _ 41 rfl w.heap.size 5 i0 (.int .u8 0) 1 1 Tryd.underlying41 hi0 hz0 hz1 hz2 rfl (by decide) _ _ _ rfl (hown.alloc _) ⟨wr.heap.size, 0, none⟩ 1 1 [.int .u8 (8 * (s.size : Int) / 2 ^ (8 * q) % 256)] rfl rfl (cell_one_new _ _ _) (by simp [Value.oneCell']) (by have := HQ.out.2; unfold maxLen; omega) (by have := HQ.out.2; omega) (by simp; omega) ?_; intro v' w4 hown' hgrow _; have hb5 : Below w.heap.size w w4 := (hbr.alloc hB _).grown hgrow (by simp; omega) hlt)
              have HH := Lib.hid (And.intro hown' hb5)
              refine ⟨⟨t + 1, by have := HQ.out.2; omega, by rw [show (q : Int) - 1 = 7 - ((t + 1 : Nat) : Int) by have := HQ.out.1; omega], by rw [HBV.out]; exact HH.out.1, HH.out.2⟩, ?_⟩
              show ((q : Int) - 1 + 1).toNat < ((q : Int) + 1).toNat
              omega
            · have hte : t = 8 := by omega
              subst hte
              have HO := Lib.hid (And.intro hown hbr)
              clear hown hbr
              go_wp2_with fail
              go_ret
              have hpd : Sha.pad s.data.toList = l ++ 128 :: List.replicate (Sha.padZ s.size) 0 ++ lastB s.size 8 := by
                rw [← HLL.out.1]
                unfold Sha.pad Sha.padB lastB
                rw [HLL.out.2, List.append_assoc]
                rfl
              have hpl : (Sha.pad s.data.toList).length = c + 8 := by
                rw [Sha.pad_length, ← HLL.out.1, HLL.out.2, HCE.out]
                omega
              refine ⟨⟨_, rfl, ?_⟩, HO.out.2⟩
              rw [hpl, hpd]
              exact HO.out.1
end Go.Proofs.YtbaggjhjkignkaaDoor

