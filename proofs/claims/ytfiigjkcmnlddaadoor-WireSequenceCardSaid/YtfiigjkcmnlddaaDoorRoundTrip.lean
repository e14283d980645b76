/-
  The walk of WireRoundTrip: it returns true for all arguments. Condition: the table reads as the program's text lays it.
-/
import Derived.Test.YtfiigjkcmnlddaaDoorTruncated
namespace Go.Proofs.YtfiigjkcmnlddaaDoor
open Go.RowKit

/-- An integer's encoding is read wherever it stands. -/
theorem int_mid (n : Int) (h1 : -4611686018427387903 ≤ n) (h2 : n ≤ 4611686018427387903) (p q : ByteArray) :
    Enc.intV (p ++ encS n ++ q).data.toList (p.size : Int) = (n, (p.size : Int) + ((encS n).size : Int), 0) := by
  have h := Enc.intV_put h1 h2 p.data.toList q.data.toList
  rw [toList_len] at h
  rw [encS_size, ← h]
  simp [ByteArray.data_append, encS_list]
theorem str_mid (t : ByteArray) (ht : t.size ≤ 65536) (p q : ByteArray) :
    Enc.strV (p ++ pstrS t ++ q).data.toList (p.size : Int) = (t.data.toList, (p.size : Int) + ((pstrS t).size : Int), 0) := by
  have h := Enc.strV_put (t := t.data.toList) (by rw [toList_len]; exact ht) p.data.toList q.data.toList
  rw [toList_len, toList_len, List.length_append, toList_len, ← pstrS_size] at h
  rw [← h]
  simp [ByteArray.data_append, pstrS_list]

set_option maxRecDepth 100000 in
set_option maxHeartbeats 2000000 in
theorem roundTrip_walk (c : Int) (text : ByteArray) (x y : ByteArray) (w : World) (ht : Tab w)
    (c1 : -9223372036854775808 ≤ c) (c2 : c ≤ 9223372036854775807) (hs : text.size ≤ maxLen) (hx : x.size ≤ maxLen) (hy : y.size ≤ maxLen) :
    Calls Tryd.prog 4 #[.int .i64 c, .string text, .agg #[.string x, .string y]] w fun e w' => e = .returned (.bool true) ∧ Below w.heap.size w w' := by
  unfold maxLen at hs hx hy
  have bc := numS_bd c
  have NC := Lib.hid (fun w => num_any c w c1 c2)
  have PC := Lib.hid (putN c)
  have hc9 : (encS (numS c)).size ≤ 9 := by rw [encS_size]; exact Enc.enc_le _
  have HI := Lib.hid (int_mid (numS c) (by omega) (by omega))
  have HT := Lib.hid ht
  clear ht
  generalize encS (numS c) = A at *
  generalize numS c = n at *
  go_enter Tryd.func4, Tryd.ntmps4
  go_wp2_with fail
  refine (sane_any _ (HT.out.below ((Below.refl _ _).alloc (Nat.le_refl _) _))).mono ?_; rintro e w1 ⟨rfl, hb1⟩
  go_wp2_with fail
  refine (NC.out _).mono ?_; rintro e w2 ⟨rfl, hb2⟩
  have hb2' := below_step hb1 hb2
  have hcx : w2.cell? ⟨w.heap.size, 0, none⟩ = some (.string x) := (hb2'.cell (p := ⟨w.heap.size, 0, none⟩) (by simp)).trans (World.cell?_alloc_mark w #[.string x, .string y] 36 (0, 0) 0)
  have hcy : w2.cell? ⟨w.heap.size, 1, none⟩ = some (.string y) := (hb2'.cell (p := ⟨w.heap.size, 1, none⟩) (by simp)).trans (World.cell?_alloc_mark w #[.string x, .string y] 36 (0, 0) 1)
  go_wp2_with fail
  have hp := cut_size' x 200 (by omega)
  have hq := cut_size' y 200 (by omega)
  have ht2 := cut_size' text 200 (by omega)
  generalize x.extract 0 (min (x.size : Int) 200).toNat = p at hp ⊢
  generalize y.extract 0 (min (y.size : Int) 200).toNat = q at hq ⊢
  generalize text.extract 0 (min (text.size : Int) 200).toNat = t at ht2 ⊢
  have HA := Lib.hid (HI.out p q)
  have HS := Lib.hid (str_mid t (by omega) p q)
  have hTs := pstrS_size t
  have hT1 : (pstrS t).size ≤ 209 := by have := Enc.enc_le (Enc.zig t.size); omega
  have PT := Lib.hid (fun w => putS t w (by omega))
  clear hTs HI
  generalize pstrS t = T at *
  refine (PC.out _).mono ?_; rintro e w3 ⟨rfl, hb3⟩
  go_wp2_with fail
  refine (PT.out _).mono ?_; rintro e w4 ⟨rfl, hb4⟩
  go_wp2_with fail
  refine (int_at _ _ _ _ 0 _ (by unfold maxLen; simp only [ByteArray.size_append]; omega) HA.out).mono ?_; rintro e w5 ⟨rfl, rfl⟩
  go_wp2_with fail
  refine (str_at _ t _ _ 0 _ (by unfold maxLen; simp only [ByteArray.size_append]; omega) HS.out).mono ?_; rintro e w6 ⟨rfl, hb6⟩
  go_wp2_with fail
  go_ret
  exact ⟨rfl, ((Below.refl _ _).alloc (Nat.le_refl _) _).trans ((below_step (below_step (below_step hb2' hb3) hb4) hb6).mono (by simp))⟩
end Go.Proofs.YtfiigjkcmnlddaaDoor
