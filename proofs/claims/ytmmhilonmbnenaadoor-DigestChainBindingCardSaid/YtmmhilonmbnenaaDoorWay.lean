/-
  The contract of the statements' way, under the contracts of Leaf and Node.
-/
import Derived.Test.YtmmhilonmbnenaaDoorHelp
namespace Go.Proofs.YtmmhilonmbnenaaDoor
open Go.RowKit Tree

theorem wayR_ne (H : ByteArray → ByteArray) (s : ByteArray) : ∀ (r : List ByteArray) (n i : Nat), 0 < (wayR H s n i r).1.length
  | [], n, i => by unfold wayR; simp
  | x :: r, n, i => by
    unfold wayR
    by_cases h : n ≤ 1
    · simp [h]
    · by_cases hi : i < leftN n <;> simp [h, hi]
theorem wayR_len (H : ByteArray → ByteArray) (s : ByteArray) : ∀ (r : List ByteArray) (n i : Nat), (wayR H s n i r).1.length ≤ r.length + 1
  | [], n, i => by unfold wayR; simp
  | x :: r, n, i => by
    have := wayR_len H s r
    unfold wayR
    by_cases h : n ≤ 1
    · simp [h]
    · by_cases hi : i < leftN n
      · simp [h, hi]; exact this _ _
      · simp [h, hi]; exact this _ _
theorem wayR_size {H : ByteArray → ByteArray} (hH : ∀ s, (H s).size = 32) (s : ByteArray) : ∀ (r : List ByteArray) (n i : Nat), (wayR H s n i r).2.size = 32
  | [], n, i => by unfold wayR; exact hH _
  | x :: r, n, i => by
    unfold wayR
    by_cases h : n ≤ 1
    · rw [if_pos h]; exact hH _
    · by_cases hi : i < leftN n
      · rw [if_neg h, if_pos hi]; exact hH _
      · rw [if_neg h, if_neg hi]; exact hH _

/-- What way answers. -/
def WayEnd (L : List ByteArray) (v : ByteArray) (w : World) (e : Ending) (w' : World) : Prop :=
  ∃ l, e = .returned (.tuple #[l, .string v]) ∧ StrOwn w' w.heap.size l L ∧ Below w.heap.size w w'

set_option maxRecDepth 100000 in
set_option maxHeartbeats 4000000 in
theorem way_any {H : ByteArray → ByteArray} {T : World → Prop} (D : Digests H T) (s : ByteArray) (hs : s.size ≤ 100) : ∀ (r : List ByteArray) (n i : Nat) (a : Option Addr) (c : Nat) (w : World), T w → r.length ≤ 100 → i < n → n < 9223372036854775808 →
    (∀ x ∈ r, x.size ≤ 100) → StrA w a c r.reverse → Calls Tryd.prog 31 #[.int .i64 n, .int .i64 i, .string s, .slice a r.length c] w (WayEnd (wayR H s n i r).1 (wayR H s n i r).2 w)
  | [], n, i, a, c, w, ht, hr, hi, hn, hx, hA => by
    have hE : ∀ v', StrOwn v' w.heap.size (.slice (some ⟨w.heap.size, 0, none⟩) 1 1) [⟨#[0]⟩ ++ s] → Below w.heap.size w v' → WayEnd (wayR H s n i []).1 (wayR H s n i []).2 w (.returned (.tuple #[.slice (some ⟨w.heap.size, 0, none⟩) 1 1, .string (leafS H s)])) v' := fun v' h1 h2 => ⟨_, rfl, by unfold wayR; exact h1, h2⟩
    have HE := Lib.hid hE
    clear hE
    have hb0 : Below w.heap.size w (w.alloc (.cells #[.string (⟨#[0]⟩ ++ s)] 9)) := (Below.refl _ _).alloc (Nat.le_refl _) _
    by_cases h1 : n ≤ 1
    · go_enter Tryd.func31, Tryd.ntmps31
      go_wp2_with fail
      refine (D.leaf s _ (D.below ht hb0) (by omega)).mono ?_; rintro e w2 ⟨rfl, hb2⟩
      have hf := HE.out w2 ((StrOwn.lit w (⟨#[0]⟩ ++ s)).below hb2) (below_step hb0 hb2)
      have HF := Lib.hid hf
      clear hf HE hb0 hb2
      go_wp2_with fail
      go_ret2
      exact HF.out
    · have h1' : decide ((n : Int) ≤ 1) = false := by simp; omega
      go_enter Tryd.func31, Tryd.ntmps31
      go_wp2_with fail
      refine (D.leaf s _ (D.below ht hb0) (by omega)).mono ?_; rintro e w2 ⟨rfl, hb2⟩
      have hf := HE.out w2 ((StrOwn.lit w (⟨#[0]⟩ ++ s)).below hb2) (below_step hb0 hb2)
      have HF := Lib.hid hf
      clear hf HE hb0 hb2
      go_wp2_with fail
      go_ret2
      exact HF.out
  | x :: r, n, i, a, c, w, ht, hr, hi, hn, hx, hA => by
    have hr' : r.length ≤ 99 := by simpa using hr
    have hlr : (x :: r).reverse.length = r.length + 1 := by simp
    obtain ⟨hA1, hA2, hA3⟩ := hA
    rw [hlr] at hA1
    obtain ⟨b, off, rfl, l1, l2⟩ := hA3 r.length (by omega)
    have hA4 : StrA w (some ⟨b, off, none⟩) c r.reverse := by
      refine ⟨by simp; omega, hA2, fun j hj => ?_⟩
      simp at hj
      obtain ⟨b', off', e, e1, e2⟩ := hA3 j (by omega)
      refine ⟨b', off', e, e1, ?_⟩
      rw [e2]
      simp [List.getElem_append_left, hj]
    have hl : (x :: r).reverse[r.length]'(by omega) = x := by simp
    rw [hl] at l2
    clear hl hlr hA3 hr
    unfold maxLen at hA2
    have hxs := hx x (by simp)
    have hxr : ∀ x ∈ r, x.size ≤ 100 := fun y hy => hx y (by simp [hy])
    clear hx
    by_cases h1 : n ≤ 1
    · have hb0 : Below w.heap.size w (w.alloc (.cells #[.string (⟨#[0]⟩ ++ s)] 9)) := (Below.refl _ _).alloc (Nat.le_refl _) _
      have hE : ∀ v', StrOwn v' w.heap.size (.slice (some ⟨w.heap.size, 0, none⟩) 1 1) [⟨#[0]⟩ ++ s] → Below w.heap.size w v' → WayEnd (wayR H s n i (x :: r)).1 (wayR H s n i (x :: r)).2 w (.returned (.tuple #[.slice (some ⟨w.heap.size, 0, none⟩) 1 1, .string (leafS H s)])) v' := fun v' e1 e2 => ⟨_, by unfold wayR; rw [if_pos h1], by unfold wayR; rw [if_pos h1]; exact e1, e2⟩
      have HE := Lib.hid hE
      clear hE
      go_enter Tryd.func31, Tryd.ntmps31
      go_wp2_with fail
      refine (D.leaf s _ (D.below ht hb0) (by omega)).mono ?_; rintro e w2 ⟨rfl, hb2⟩
      have hf := HE.out w2 ((StrOwn.lit w (⟨#[0]⟩ ++ s)).below hb2) (below_step hb0 hb2)
      have HF := Lib.hid hf
      clear hf HE hb0 hb2
      go_wp2_with fail
      go_ret2
      exact HF.out
    · have h1' : decide ((n : Int) ≤ 1) = false := by simp; omega
      have hk0 := leftN_pos n
      have hk1 := leftN_lt (n := n) (by omega)
      obtain ⟨i0, hi0, hz0, hz1, hz2⟩ := info_parts info_string
      by_cases hik : i < leftN n
      · have IH := way_any D s hs r (leftN n) i (some ⟨b, off, none⟩) c w ht (by omega) hik (by omega) hxr hA4
        have hsz := wayR_size D.size s r (leftN n) i
        have hne := wayR_ne H s r (leftN n) i
        have hlen := wayR_len H s r (leftN n) i
        have hE : ∀ v' l, StrOwn v' w.heap.size l ((⟨#[1]⟩ ++ (wayR H s (leftN n) i r).2 ++ x) :: (wayR H s (leftN n) i r).1) → Below w.heap.size w v' → WayEnd (wayR H s n i (x :: r)).1 (wayR H s n i (x :: r)).2 w (.returned (.tuple #[l, .string (nodeS H (wayR H s (leftN n) i r).2 x)])) v' := fun v' l e1 e2 => ⟨_, by rw [wayR, if_neg h1, if_pos hik], by rw [wayR, if_neg h1, if_pos hik]; exact e1, e2⟩
        have HE := Lib.hid hE
        have HI := Lib.hid IH
        have HL := Lib.hid (left_any n w (by omega) hn)
        clear hE IH
        generalize (wayR H s (leftN n) i r).1 = L at *
        generalize (wayR H s (leftN n) i r).2 = v at *
        generalize leftN n = k at *
        go_enter Tryd.func31, Tryd.ntmps31
        go_wp2_with fail
        refine HL.out.mono ?_; rintro e w2 ⟨rfl, rfl⟩
        go_wp2_with fail
        refine HI.out.mono ?_; rintro e w3 ⟨l, rfl, hown, hb3⟩
        obtain ⟨g, cap, rfl, hg1, hg2, hcap, hcell⟩ := hown.open hne
        have hB3 := hb3.size
        have hb4 : Below w.heap.size w (w3.alloc (.cells #[.string (⟨#[1]⟩ ++ v ++ x)] 9)) := hb3.alloc hB3 _
        have hcell' : ∀ j u, (strV L)[j]? = some u → (w3.alloc (.cells #[.string (⟨#[1]⟩ ++ v ++ x)] 9)).cell? ((⟨g, 0, none⟩ : Addr).add j) = some u := fun j u hu =>
          (((Below.refl w3.heap.size w3).alloc (Nat.le_refl _) (.cells #[.string (⟨#[1]⟩ ++ v ++ x)] 9)).cell (p := (⟨g, 0, none⟩ : Addr).add j) (by rw [addr_block]; exact hg2)).trans (hcell j u hu)
        have hlit := StrOwn.lit w3 (⟨#[1]⟩ ++ v ++ x)
        clear hown hcell
        go_wp2_with (at_builtin; refine wpList_append_own _ rfl _ _ 26 rfl w3.heap.size 9 i0 (.string ⟨#[]⟩) 1 16 Tryd.underlying26 hi0 hz0 hz1 hz2 rfl (by decide) _ _ _ rfl hlit ⟨g, 0, none⟩ L.length cap (strV L) rfl (by simp [strV]) hcell' (strV_one L) (by simp only [List.length_singleton]; unfold maxLen; omega) (by simp only [List.length_singleton]; omega) (by simp) ?_; intro v' w4 hown' hgrow _)
        have hlt := fun k e => (hlit.lt k e).1
        have hb5 : Below w.heap.size w w4 := hb4.grown hgrow (by simp; omega) (fun k e => Nat.le_trans hB3 (hlt k e))
        have ho5 := (StrOwn.cons hown').mono hB3
        have HO := Lib.hid ho5
        have HB := Lib.hid hb5
        clear hown' hgrow hcell' hlit hlt hb4 hb5 ho5
        refine (D.node v x w4 (D.below ht HB.out) (by omega) (by omega)).mono ?_; rintro e w5 ⟨rfl, hb6⟩
        have hf := HE.out w5 _ (HO.out.below hb6) (below_step HB.out hb6)
        have HF := Lib.hid hf
        clear hf HE hb6
        go_wp2_with fail
        go_ret2
        exact HF.out
      · have IH := way_any D s hs r (n - leftN n) (i - leftN n) (some ⟨b, off, none⟩) c w ht (by omega) (by omega) (by omega) hxr hA4
        have hsz := wayR_size D.size s r (n - leftN n) (i - leftN n)
        have hne := wayR_ne H s r (n - leftN n) (i - leftN n)
        have hlen := wayR_len H s r (n - leftN n) (i - leftN n)
        have hE : ∀ v' l, StrOwn v' w.heap.size l ((⟨#[1]⟩ ++ x ++ (wayR H s (n - leftN n) (i - leftN n) r).2) :: (wayR H s (n - leftN n) (i - leftN n) r).1) → Below w.heap.size w v' → WayEnd (wayR H s n i (x :: r)).1 (wayR H s n i (x :: r)).2 w (.returned (.tuple #[l, .string (nodeS H x (wayR H s (n - leftN n) (i - leftN n) r).2)])) v' := fun v' l e1 e2 => ⟨_, by rw [wayR, if_neg h1, if_neg hik], by rw [wayR, if_neg h1, if_neg hik]; exact e1, e2⟩
        have HE := Lib.hid hE
        have HI := Lib.hid IH
        have HL := Lib.hid (left_any n w (by omega) hn)
        clear hE IH
        generalize (wayR H s (n - leftN n) (i - leftN n) r).1 = L at *
        generalize (wayR H s (n - leftN n) (i - leftN n) r).2 = v at *
        generalize leftN n = k at *
        have hik' : decide ((i : Int) < (k : Int)) = false := by simp; omega
        have ei : ((i - k : Nat) : Int) = (i : Int) - (k : Int) := by omega
        have en : ((n - k : Nat) : Int) = (n : Int) - (k : Int) := by omega
        rw [ei, en] at HI
        go_enter Tryd.func31, Tryd.ntmps31
        go_wp2_with fail
        refine HL.out.mono ?_; rintro e w2 ⟨rfl, rfl⟩
        go_wp2_with fail
        refine HI.out.mono ?_; rintro e w3 ⟨l, rfl, hown, hb3⟩
        obtain ⟨g, cap, rfl, hg1, hg2, hcap, hcell⟩ := hown.open hne
        have hB3 := hb3.size
        have hb4 : Below w.heap.size w (w3.alloc (.cells #[.string (⟨#[1]⟩ ++ x ++ v)] 9)) := hb3.alloc hB3 _
        have hcell' : ∀ j u, (strV L)[j]? = some u → (w3.alloc (.cells #[.string (⟨#[1]⟩ ++ x ++ v)] 9)).cell? ((⟨g, 0, none⟩ : Addr).add j) = some u := fun j u hu =>
          (((Below.refl w3.heap.size w3).alloc (Nat.le_refl _) (.cells #[.string (⟨#[1]⟩ ++ x ++ v)] 9)).cell (p := (⟨g, 0, none⟩ : Addr).add j) (by rw [addr_block]; exact hg2)).trans (hcell j u hu)
        have hlit := StrOwn.lit w3 (⟨#[1]⟩ ++ x ++ v)
        clear hown hcell
        go_wp2_with (at_builtin; refine wpList_append_own _ rfl _ _ 26 rfl w3.heap.size 9 i0 (.string ⟨#[]⟩) 1 16 Tryd.underlying26 hi0 hz0 hz1 hz2 rfl (by decide) _ _ _ rfl hlit ⟨g, 0, none⟩ L.length cap (strV L) rfl (by simp [strV]) hcell' (strV_one L) (by simp only [List.length_singleton]; unfold maxLen; omega) (by simp only [List.length_singleton]; omega) (by simp) ?_; intro v' w4 hown' hgrow _)
        have hlt := fun k e => (hlit.lt k e).1
        have hb5 : Below w.heap.size w w4 := hb4.grown hgrow (by simp; omega) (fun k e => Nat.le_trans hB3 (hlt k e))
        have ho5 := (StrOwn.cons hown').mono hB3
        have HO := Lib.hid ho5
        have HB := Lib.hid hb5
        clear hown' hgrow hcell' hlit hlt hb4 hb5 ho5
        refine (D.node x v w4 (D.below ht HB.out) (by omega) (by omega)).mono ?_; rintro e w5 ⟨rfl, hb6⟩
        have hf := HE.out w5 _ (HO.out.below hb6) (below_step HB.out hb6)
        have HF := Lib.hid hf
        clear hf HE hb6
        go_wp2_with fail
        go_ret2
        exact HF.out
end Go.Proofs.YtmmhilonmbnenaaDoor
