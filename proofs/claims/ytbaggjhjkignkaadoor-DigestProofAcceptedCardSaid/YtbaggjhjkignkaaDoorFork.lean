/-
  Forks: the way from a root down to an entry, as lists; and the contracts of fork's methods next, join and sibling.
-/
import Derived.Test.YtbaggjhjkignkaaDoorRoot
namespace Go.Proofs.YtbaggjhjkignkaaDoor
open Go.RowKit Tree

/-- A fork. -/
structure Fk where
  first : Nat
  half : Nat
  fin : Nat
  left : Bool
/-- A fork as a value. -/
def fkV (f : Fk) : Value := .agg #[.int .i64 f.first, .int .i64 f.half, .int .i64 f.fin, .bool f.left]
def Fk.next (f : Fk) : Nat := if f.left then f.first else f.half
/-- The entries on the side that the way leaves aside. -/
def Fk.aside (f : Fk) (L : List ByteArray) : List ByteArray := if f.left then (L.drop f.half).take (f.fin - f.half) else (L.drop f.first).take (f.half - f.first)
def Fk.joinS (f : Fk) (on aside : ByteArray) : ByteArray := if f.left then nodeS Sha.shaS on aside else nodeS Sha.shaS aside on
/-- A fork within n entries. -/
def Fk.within (f : Fk) (n : Nat) : Prop := f.first < f.half ∧ f.half < f.fin ∧ f.fin ≤ n

/-- The forks from the entries from first to fin down to i, the topmost one first. -/
def forksF : Nat → Nat → Nat → Nat → List Fk
  | 0, _, _, _ => []
  | m + 1, first, fin, i => if fin - first ≤ 1 then [] else
      ⟨first, first + leftN (fin - first), fin, decide (i < first + leftN (fin - first))⟩ ::
        (if i < first + leftN (fin - first) then forksF m first (first + leftN (fin - first)) i else forksF m (first + leftN (fin - first)) fin i)
theorem forksF_stop (m first fin i : Nat) (h : fin - first ≤ 1) : forksF m first fin i = [] := by cases m <;> simp [forksF, h]
theorem forksF_low (m first fin i : Nat) (h : 2 ≤ fin - first) (hi : i < first + leftN (fin - first)) :
    forksF (m + 1) first fin i = ⟨first, first + leftN (fin - first), fin, true⟩ :: forksF m first (first + leftN (fin - first)) i := by
  rw [forksF, if_neg (by omega), if_pos hi, decide_eq_true hi]
theorem forksF_high (m first fin i : Nat) (h : 2 ≤ fin - first) (hi : ¬ i < first + leftN (fin - first)) :
    forksF (m + 1) first fin i = ⟨first, first + leftN (fin - first), fin, false⟩ :: forksF m (first + leftN (fin - first)) fin i := by
  rw [forksF, if_neg (by omega), if_neg hi, decide_eq_false hi]
theorem leftN_half {s m : Nat} (h : 2 ≤ s) (hs : s ≤ 2 ^ (m + 1)) : leftN s ≤ 2 ^ m ∧ s - leftN s ≤ 2 ^ m := by
  have h1 := leftN_le h
  have h2 := leftN_lt h
  have h3 : leftN s ≤ 2 ^ m := by
    have e : leftN s = 2 ^ (s - 1).log2 := rfl
    rw [e] at h2 ⊢
    refine Nat.pow_le_pow_right (by omega) ?_
    have := (Nat.pow_lt_pow_iff_right (by omega : 1 < 2)).1 (show 2 ^ (s - 1).log2 < 2 ^ (m + 1) by omega)
    omega
  exact ⟨h3, by omega⟩
theorem forksF_within : ∀ (m first fin i n : Nat), fin ≤ n → ∀ f ∈ forksF m first fin i, f.within n
  | 0, _, _, _, _, _, f, hf => by simp [forksF] at hf
  | m + 1, first, fin, i, n, hn, f, hf => by
    by_cases h : fin - first ≤ 1
    · rw [forksF_stop _ _ _ _ h] at hf; simp at hf
    · have h1 := leftN_pos (fin - first)
      have h2 := leftN_lt (n := fin - first) (by omega)
      by_cases hi : i < first + leftN (fin - first)
      · rw [forksF_low _ _ _ _ (by omega) hi] at hf
        rcases List.mem_cons.1 hf with rfl | hf
        · exact ⟨by show first < first + _; omega, by show first + _ < fin; omega, hn⟩
        · exact forksF_within m _ _ _ n (by omega) f hf
      · rw [forksF_high _ _ _ _ (by omega) hi] at hf
        rcases List.mem_cons.1 hf with rfl | hf
        · exact ⟨by show first < first + _; omega, by show first + _ < fin; omega, hn⟩
        · exact forksF_within m _ _ _ n hn f hf
theorem forksF_length : ∀ (m first fin i : Nat), (forksF m first fin i).length ≤ m
  | 0, _, _, _ => by simp [forksF]
  | m + 1, first, fin, i => by
    rw [forksF]
    by_cases h : fin - first ≤ 1
    · simp [h]
    · by_cases hi : i < first + leftN (fin - first)
      · simp [h, hi]; exact forksF_length m _ _ _
      · simp [h, hi]; exact forksF_length m _ _ _

set_option maxRecDepth 100000 in
set_option maxHeartbeats 400000 in
theorem next_any (f : Fk) (w : World) :
    Calls Tryd.prog 35 #[fkV f] w fun e w' => e = .returned (.int .i64 (f.next : Nat)) ∧ Below w.heap.size w w' := by
  obtain ⟨a, b, c, d⟩ := f
  have hb : Below w.heap.size w (w.alloc (.cells #[.int .i64 a, .int .i64 b, .int .i64 c, .bool d] 49)) := (Below.refl _ _).alloc (Nat.le_refl _) _
  have HB := Lib.hid hb
  clear hb
  unfold fkV Fk.next
  cases d
  · go_enter Tryd.func35, Tryd.ntmps35
    go_wp2_with fail
    go_ret
    exact ⟨rfl, HB.out⟩
  · go_enter Tryd.func35, Tryd.ntmps35
    go_wp2_with fail
    go_ret
    exact ⟨rfl, HB.out⟩
set_option maxRecDepth 100000 in
set_option maxHeartbeats 400000 in
theorem join_any (f : Fk) (x y : ByteArray) (w : World) (ht : Tab w) (hx : x.size ≤ 500) (hy : y.size ≤ 500) :
    Calls Tryd.prog 40 #[fkV f, .string x, .string y] w (StrEnd (f.joinS x y) w) := by
  obtain ⟨a, b, c, d⟩ := f
  have hb : Below w.heap.size w (w.alloc (.cells #[.int .i64 a, .int .i64 b, .int .i64 c, .bool d] 49)) := (Below.refl _ _).alloc (Nat.le_refl _) _
  have HB := Lib.hid hb
  clear hb
  unfold fkV Fk.joinS StrEnd
  cases d
  · go_enter Tryd.func40, Tryd.ntmps40
    go_wp2_with fail
    refine (node_any y x _ (ht.below HB.out) hy hx).mono ?_
    rintro e w1 ⟨rfl, hb⟩
    have HB2 := Lib.hid (below_step HB.out hb)
    clear hb
    go_wp2_with fail
    go_ret
    exact ⟨rfl, HB2.out⟩
  · go_enter Tryd.func40, Tryd.ntmps40
    go_wp2_with fail
    refine (node_any x y _ (ht.below HB.out) hx hy).mono ?_
    rintro e w1 ⟨rfl, hb⟩
    have HB2 := Lib.hid (below_step HB.out hb)
    clear hb
    go_wp2_with fail
    go_ret
    exact ⟨rfl, HB2.out⟩
theorem StrA.part {w : World} {b off c : Nat} {L : List ByteArray} (h : StrA w (some ⟨b, off, none⟩) c L) (i j : Nat) : StrA w (some ⟨b, off + i, none⟩) (c - i) ((L.drop i).take (j - i)) := (h.drop i).take (j - i)
set_option maxRecDepth 100000 in
set_option maxHeartbeats 800000 in
theorem sibling_any (f : Fk) (b off c : Nat) (L : List ByteArray) (w : World) (hw : f.within L.length) (ht : Tab w) (hA : StrA w (some ⟨b, off, none⟩) c L) (hx : ∀ x ∈ L, x.size ≤ 1000) :
    Calls Tryd.prog 31 #[fkV f, .slice (some ⟨b, off, none⟩) L.length c] w (StrEnd (rootS Sha.shaS (f.aside L)) w) := by
  obtain ⟨p, q, r, d⟩ := f
  obtain ⟨h1, h2, h3⟩ := hw
  have hlc := hA.1
  have hcm := hA.2.1
  unfold maxLen at hcm
  simp only at h1 h2 h3
  have hb : Below w.heap.size w (w.alloc (.cells #[.int .i64 p, .int .i64 q, .int .i64 r, .bool d] 49)) := (Below.refl _ _).alloc (Nat.le_refl _) _
  have hm : ∀ i j, ∀ x ∈ (L.drop i).take (j - i), x.size ≤ 1000 := fun i j x h => hx x (List.mem_of_mem_drop (List.mem_of_mem_take h))
  have R1 := root_any L.length ((L.drop q).take (r - q)) (some ⟨b, off + q, none⟩) (c - q) _ (by simp; omega) (ht.below hb) ((hA.below hb).part q r) (hm q r)
  have R2 := root_any L.length ((L.drop p).take (q - p)) (some ⟨b, off + p, none⟩) (c - p) _ (by simp; omega) (ht.below hb) ((hA.below hb).part p q) (hm p q)
  rw [show ((L.drop q).take (r - q)).length = r - q by simp; omega] at R1
  rw [show ((L.drop p).take (q - p)).length = q - p by simp; omega] at R2
  have HB := Lib.hid hb
  have HR1 := Lib.hid R1
  have HR2 := Lib.hid R2
  clear R1 R2 hb hA hm
  have k1 : (q : Int) ≤ (r : Int) := by omega
  have k2 : (r : Int) ≤ (c : Int) := by omega
  have k3 : (p : Int) ≤ (q : Int) := by omega
  have k4 : (q : Int) ≤ (c : Int) := by omega
  have c1 : (c == q) = false := by simp; omega
  have c2 : (c == p) = false := by simp; omega
  unfold fkV Fk.aside
  cases d
  · go_enter Tryd.func31, Tryd.ntmps31
    go_wp2_with fail
    refine HR2.out.mono ?_
    rintro e w1 ⟨rfl, hb⟩
    have HB2 := Lib.hid (below_step HB.out hb)
    clear hb
    go_wp2_with fail
    go_ret
    exact ⟨rfl, HB2.out⟩
  · go_enter Tryd.func31, Tryd.ntmps31
    go_wp2_with fail
    refine HR1.out.mono ?_
    rintro e w1 ⟨rfl, hb⟩
    have HB2 := Lib.hid (below_step HB.out hb)
    clear hb
    go_wp2_with fail
    go_ret
    exact ⟨rfl, HB2.out⟩
end Go.Proofs.YtbaggjhjkignkaaDoor

