/-
  The walk of WireSumAffine: it returns true for all arguments. Condition: the table reads as the program's text lays it.
-/
import Derived.Test.YtfiigjkcmnlddaaDoorSane
import Derived.Test.YtfiigjkcmnlddaaDoorRow
import Derived.Laws.DeepStrings4
import Derived.WalkSpells
import Derived.Deep.QuietTactic
import Derived.BigQuiet
namespace Go.Proofs.YtfiigjkcmnlddaaDoor
open Go.RowKit

/-- The XOR of the first k bytes, and zeros behind it. -/
def xorTo (a b c : ByteArray) (n k : Nat) : List UInt8 := (Crc.xorL (Crc.xorL (a.data.toList.take n) (b.data.toList.take n)) (c.data.toList.take n)).take k ++ List.replicate (n - k) 0

theorem xorAll_length (a b c : ByteArray) (n : Nat) (ha : n ≤ a.size) (hb : n ≤ b.size) (hc : n ≤ c.size) : (Crc.xorL (Crc.xorL (a.data.toList.take n) (b.data.toList.take n)) (c.data.toList.take n)).length = n := by
  unfold Crc.xorL; simp; omega
theorem xorTo_length (a b c : ByteArray) (n k : Nat) (ha : n ≤ a.size) (hb : n ≤ b.size) (hc : n ≤ c.size) (hk : k ≤ n) : (xorTo a b c n k).length = n := by
  unfold xorTo
  rw [List.length_append, List.length_take, xorAll_length a b c n ha hb hc]; simp; omega
theorem xorTo_zero (a b c : ByteArray) (n : Nat) : xorTo a b c n 0 = List.replicate n 0 := by simp [xorTo]
theorem xorTo_all (a b c : ByteArray) (n : Nat) (ha : n ≤ a.size) (hb : n ≤ b.size) (hc : n ≤ c.size) : xorTo a b c n n = Crc.xorL (Crc.xorL (a.data.toList.take n) (b.data.toList.take n)) (c.data.toList.take n) := by
  unfold xorTo
  rw [List.take_of_length_le (by rw [xorAll_length a b c n ha hb hc]; exact Nat.le_refl _)]; simp
theorem xorTo_succ (a b c : ByteArray) (n k : Nat) (ha : n ≤ a.size) (hb : n ≤ b.size) (hc : n ≤ c.size) (hk : k < n) :
    (xorTo a b c n k).set k (a[k] ^^^ b[k] ^^^ c[k]) = xorTo a b c n (k + 1) := by
  have hl := xorAll_length a b c n ha hb hc
  have hx : (Crc.xorL (Crc.xorL (a.data.toList.take n) (b.data.toList.take n)) (c.data.toList.take n))[k]? = some (a[k] ^^^ b[k] ^^^ c[k]) := by
    rw [List.getElem?_eq_getElem (by omega)]
    simp only [Crc.xorL, List.getElem_zipWith, List.getElem_take]; rfl
  unfold xorTo
  generalize a[k] ^^^ b[k] ^^^ c[k] = v at *
  generalize Crc.xorL (Crc.xorL (a.data.toList.take n) (b.data.toList.take n)) (c.data.toList.take n) = X at *
  obtain ⟨hk', hv⟩ := List.getElem?_eq_some_iff.1 hx
  rw [List.take_succ_eq_append_getElem hk', hv, List.set_append_right _ _ (by simp; omega)]
  have e : n - k = (n - (k + 1)) + 1 := by omega
  have e2 : k - (X.take k).length = 0 := by simp; omega
  rw [e, List.replicate_succ, e2, List.set_cons_zero]
  simp

/-- The checksum of a Go string. -/
def sumS (t : ByteArray) : Nat := Crc.sum t.data.toList
theorem sumS_lt (t : ByteArray) : sumS t < 4294967296 := Crc.sum_lt _
theorem sumS_at (t : ByteArray) (w : World) (h : t.size ≤ 1000) (ht : Tab w) : Calls Tryd.prog 21 #[.string t] w fun e w' => e = .returned (.int .i64 ((sumS t : Nat) : Int)) ∧ w' = w :=
  (sum_any t w (by unfold maxLen; omega) ht).mono fun _ _ h => ⟨h.1, h.2.symm⟩

set_option maxRecDepth 100000 in
set_option maxHeartbeats 1000000 in
theorem affine_walk (a b c : ByteArray) (w : World) (ht : Tab w) (ha : a.size ≤ maxLen) (hb : b.size ≤ maxLen) (hc : c.size ≤ maxLen) :
    Calls Tryd.prog 9 #[.string a, .string b, .string c] w fun e w' => e = .returned (.bool true) ∧ Below w.heap.size w w' := by
  unfold maxLen at ha hb hc
  have HT := Lib.hid ht
  clear ht
  obtain ⟨n, hn, ha', hb', hc', hmin⟩ : ∃ n : Nat, n ≤ 200 ∧ n ≤ a.size ∧ n ≤ b.size ∧ n ≤ c.size ∧ ∀ W, (Builtin.min_ #[3, 3, 3, 3] 3 #[.int .i64 (a.size : Int), .int .i64 (b.size : Int), .int .i64 (c.size : Int), .int .i64 200]).run Tryd.prog W = .ok (.int .i64 (n : Int)) W := by
    refine ⟨min (min (min a.size b.size) c.size) 200, by omega, by omega, by omega, by omega, fun W => ?_⟩
    rw [run_min4]
    congr 2
    omega
  go_enter Tryd.func9, Tryd.ntmps9
  go_wp2_with fail
  refine (sane_any _ HT.out).mono ?_; rintro e w1 ⟨rfl, hb1⟩
  have hmk := fun W => make_bytes W n (by omega)
  go_wp2_with fail
  have hr0 := RowIs.made w1 n
  have hb2 : Below w.heap.size w (w1.alloc (.cells (madeCells (Value.int .u8 0).cells n) 5)) := below_step hb1 ((Below.refl _ _).alloc (Nat.le_refl _) _)
  have hB := hb1.size
  rw [← xorTo_zero a b c n] at hr0
  have ez : (Value.int .u8 0).cells = #[Value.int .u8 0] := rfl
  rw [ez] at hr0 hb2
  clear hmk hmin ez
  generalize w1.alloc (.cells (madeCells #[Value.int .u8 0] n) 5) = w2 at hr0 hb2 ⊢
  generalize w1.heap.size = B at hr0 hB ⊢
  go_loopw [10] (fun i wr => ∃ k : Nat, k ≤ n ∧ i = .int .i64 k ∧ RowIs wr B (xorTo a b c n k) ∧ Below w.heap.size w wr) (fun i _ => n - (intOf i).toNat)
  case atStart => exact ⟨0, by omega, rfl, hr0, hb2⟩
  case round =>
    obtain ⟨k, hk, rfl, hr, hbr⟩ := hrel
    by_cases hlt : k < n
    · have hl := xorTo_length a b c n k ha' hb' hc' hk
      have hc0 : wr.cell? ⟨B, k, none⟩ = some _ := hr.2.1 k (by omega)
      have hf0 := hr.2.2 k (by omega)
      have ka : k < a.size := by omega
      have kb : k < b.size := by omega
      have kc : k < c.size := by omega
      have hs := hr.set (k := k) (by omega) (a[k] ^^^ b[k] ^^^ c[k])
      rw [xorTo_succ a b c n k ha' hb' hc' hlt] at hs
      have HS := Lib.hid hs
      have HB := Lib.hid hbr
      obtain ⟨p, ep⟩ : ∃ p, p = (a[k] ^^^ b[k]).toNat := ⟨_, rfl⟩
      obtain ⟨v, ev⟩ : ∃ v, v = (a[k] ^^^ b[k] ^^^ c[k]).toNat := ⟨_, rfl⟩
      have f1 : bits BinOp.xor IntKind.u8 (a[k].toNat : Int) (b[k].toNat : Int) = (p : Int) := by
        rw [u8_xor _ _ a[k].toNat_lt b[k].toNat_lt, ep, UInt8.toNat_xor]
      have f2 : bits BinOp.xor IntKind.u8 (p : Int) (c[k].toNat : Int) = (v : Int) := by
        rw [ep, u8_xor _ _ (UInt8.toNat_lt _) c[k].toNat_lt, ev, UInt8.toNat_xor (a[k] ^^^ b[k])]
      rw [← ev] at HS
      clear hs hr hbr ep ev
      go_wp2_with fail
      go_region
      go_wp2_with fail
      go_roundw
      case rel => exact ⟨k + 1, by omega, by go_num, HS.out.drew, (HB.out.setCell (p := ⟨B, k, none⟩) hB _).drew⟩
      case measure => simp [intOf]; omega
    · have he : k = n := by omega
      subst he
      have hlX := xorTo_length a b c k k ha' hb' hc' hk
      have hst : ∀ m : Nat, (convert 38 9 (.slice (some ⟨B, 0, none⟩) k k)).run Tryd.prog (wr.drewN m) = .ok (.string ⟨(xorTo a b c k k).toArray⟩) (wr.drewN m) := fun m => by
        have := (hr.drewN m).string k
        rw [hlX] at this; exact this
      have hTW : ∀ m, Tab (wr.drewN m) := fun m => (HT.out.below hbr).below (below_drewN (Below.refl _ _) m)
      have hX : (ByteArray.mk (xorTo a b c k k).toArray).size ≤ 1000 := by
        rw [show (ByteArray.mk (xorTo a b c k k).toArray).size = (xorTo a b c k k).length from List.size_toArray, hlX]; omega
      have hA : ∀ t : ByteArray, (t.extract 0 k).size ≤ 1000 := fun t => by rw [ByteArray.size_extract]; omega
      have hsum : sumS ⟨(xorTo a b c k k).toArray⟩ = sumS (a.extract 0 k) ^^^ sumS (b.extract 0 k) ^^^ sumS (c.extract 0 k) := by
        have e : ∀ t : ByteArray, (t.extract 0 k).data.toList = t.data.toList.take k := fun t => by rw [Lib.extract_data]; simp
        unfold sumS
        rw [e, e, e, ← Crc.sum_affine _ _ _ (by simp; omega) (by simp; omega), ← xorTo_all a b c k ha' hb' hc']
      have SS := Lib.hid (fun (t : ByteArray) (h : t.size ≤ 1000) (m : Nat) => sumS_at t (wr.drewN m) h (hTW m))
      have la := sumS_lt (a.extract 0 k)
      have lb := sumS_lt (b.extract 0 k)
      have lc := sumS_lt (c.extract 0 k)
      have lab : sumS (a.extract 0 k) ^^^ sumS (b.extract 0 k) < 4294967296 := Nat.xor_lt_two_pow (n := 32) la lb
      have g1 := i64_xor _ _ la lb
      have g2 := i64_xor _ _ lab lc
      rw [← hsum] at g2
      generalize sumS (a.extract 0 k) ^^^ sumS (b.extract 0 k) = p at *
      have HB := Lib.hid hbr
      clear hsum hbr la lb lc lab hTW hr hlX
      generalize ByteArray.mk (xorTo a b c k k).toArray = X at *
      have HX := Lib.hid hX
      have HA := Lib.hid hA
      clear hX hA
      have ka : (0 : Int) ≤ (k : Int) := by omega
      have kb : (k : Int) ≤ (a.size : Int) := by omega
      have kc : (k : Int) ≤ (b.size : Int) := by omega
      have kd : (k : Int) ≤ (c.size : Int) := by omega
      go_wp2_with fail
      go_quiet ((go_at_call 21; exact Calls.quiet_of_same (SS.out _ (by first | exact HX.out | exact HA.out _) _)))
      go_wp2_with fail
      go_ret
      exact ⟨rfl, below_drewN HB.out _⟩
end Go.Proofs.YtfiigjkcmnlddaaDoor
