/-
  The contract of the statements' sides, under the contract of Node.
-/
import Derived.Test.YtmmhilonmbnenaaDoorHelp
namespace Go.Proofs.YtmmhilonmbnenaaDoor
open Go.RowKit Tree

theorem sidesR_len (H : ByteArray → ByteArray) (old : ByteArray) : ∀ (r : List ByteArray) (m n : Nat) (whole : Bool), (sidesR H old m n whole r).1.length ≤ r.length
  | [], m, n, whole => by unfold sidesR; simp
  | x :: r, m, n, whole => by
    have := sidesR_len H old r
    unfold sidesR
    by_cases h : n ≤ m
    · rw [if_pos h]; cases whole <;> simp
    · by_cases hl : m ≤ leftN n
      · rw [if_neg h, if_pos hl]; simp; exact this _ _ _
      · rw [if_neg h, if_neg hl]; simp; exact this _ _ _
theorem sidesR_size {H : ByteArray → ByteArray} (hH : ∀ s, (H s).size = 32) (old : ByteArray) (ho : old.size ≤ 100) : ∀ (r : List ByteArray) (m n : Nat) (whole : Bool), (∀ x ∈ r, x.size ≤ 100) → (sidesR H old m n whole r).2.size ≤ 100
  | [], m, n, whole, hx => by unfold sidesR; exact ho
  | x :: r, m, n, whole, hx => by
    unfold sidesR
    by_cases h : n ≤ m
    · rw [if_pos h]
      cases whole
      · exact hx _ (List.getLast_mem _)
      · exact ho
    · by_cases hl : m ≤ leftN n
      · rw [if_neg h, if_pos hl]; exact Nat.le_trans (Nat.le_of_eq (hH _)) (by omega)
      · rw [if_neg h, if_neg hl]; exact Nat.le_trans (Nat.le_of_eq (hH _)) (by omega)

/-- What sides answers. -/
def SidesEnd (L : List ByteArray) (v : ByteArray) (w : World) (e : Ending) (w' : World) : Prop :=
  ∃ l, e = .returned (.tuple #[l, .string v]) ∧ StrOwn w' w.heap.size l L ∧ (L = [] → l = .slice none 0 0) ∧ Below w.heap.size w w'

set_option maxRecDepth 100000 in
set_option maxHeartbeats 4000000 in
theorem sides_any {H : ByteArray → ByteArray} {T : World → Prop} (D : Digests H T) (old : ByteArray) (ho : old.size ≤ 100) : ∀ (r : List ByteArray) (m n : Nat) (whole : Bool) (a : Option Addr) (c : Nat) (w : World), T w → r.length ≤ 100 → 1 ≤ m → n < 9223372036854775808 →
    (∀ x ∈ r, x.size ≤ 100) → StrA w a c r.reverse → m < 9223372036854775808 → Calls Tryd.prog 34 #[.string old, .int .i64 m, .int .i64 n, .slice a r.length c, .bool whole] w (SidesEnd (sidesR H old m n whole r).1 (sidesR H old m n whole r).2 w)
  | [], m, n, whole, a, c, w, ht, hr, hm, hn, hx, hA, hmm => by
    have hE : SidesEnd (sidesR H old m n whole []).1 (sidesR H old m n whole []).2 w (.returned (.tuple #[.slice none 0 0, .string old])) w := ⟨_, by unfold sidesR; rfl, by unfold sidesR; exact World.ownsRow_nil _ _ _ _, fun _ => rfl, Below.refl _ _⟩
    have HE := Lib.hid hE
    clear hE
    by_cases h1 : n ≤ m
    · go_enter Tryd.func34, Tryd.ntmps34
      cases whole
      all_goals
        go_wp2_with fail
        go_ret2
        exact HE.out
    · have h1' : decide ((n : Int) ≤ (m : Int)) = false := by simp; omega
      go_enter Tryd.func34, Tryd.ntmps34
      cases whole
      all_goals
        go_wp2_with fail
        go_ret2
        exact HE.out
  | x :: r, m, n, whole, a, c, w, ht, hr, hm, hn, hx, hA, hmm => by
    have hr' : r.length ≤ 99 := by simpa using hr
    have hlr : (x :: r).reverse.length = r.length + 1 := by simp
    have hg0 : ∃ b off, a = some ⟨b, off, none⟩ ∧ w.cell? ⟨b, off, none⟩ = some (.string ((x :: r).getLast (by simp))) := by
      obtain ⟨b, off, e, _, e2⟩ := hA.2.2 0 (by simp)
      refine ⟨b, off, e, ?_⟩
      rw [Nat.add_zero] at e2
      rw [e2, List.getElem_reverse, List.getLast_eq_getElem]
      rfl
    have hlast : ((x :: r).getLast (by simp)).size ≤ 100 := hx _ (List.getLast_mem _)
    obtain ⟨hA1, hA2, hA3⟩ := hA
    rw [hlr] at hA1
    obtain ⟨b, off, rfl, l1, l2⟩ := hA3 r.length (by omega)
    have hA4 : StrA w (some ⟨b, off, none⟩) c r.reverse := by
      refine ⟨by simp; omega, hA2, fun j hj => ?_⟩
      simp at hj
      obtain ⟨b', off', e, e1, e2⟩ := hA3 j (by omega)
      refine ⟨b', off', e, e1, ?_⟩
      rw [e2]
      simp [List.getElem_append_left, hj]
    have hl : (x :: r).reverse[r.length]'(by omega) = x := by simp
    rw [hl] at l2
    clear hl hlr hA3 hr
    unfold maxLen at hA2
    have hxs := hx x (by simp)
    have hxr : ∀ x ∈ r, x.size ≤ 100 := fun y hy => hx y (by simp [hy])
    clear hx
    by_cases h1 : n ≤ m
    · obtain ⟨b2, off2, e, hc0⟩ := hg0
      cases e
      have hE : ∀ w', Below w.heap.size w w' → SidesEnd (sidesR H old m n whole (x :: r)).1 (sidesR H old m n whole (x :: r)).2 w (.returned (.tuple #[.slice none 0 0, .string (if whole then old else (x :: r).getLast (by simp))])) w' := by
        intro w' hb
        unfold sidesR
        rw [if_pos h1]
        cases whole
        · exact ⟨_, rfl, World.ownsRow_nil _ _ _ _, fun _ => rfl, hb⟩
        · exact ⟨_, rfl, World.ownsRow_nil _ _ _ _, fun _ => rfl, hb⟩
      have HE := Lib.hid hE
      clear hE
      generalize (x :: r).getLast (by simp) = y at *
      go_enter Tryd.func34, Tryd.ntmps34
      cases whole
      · have hp0 : (0 : Int) < (r.length : Int) + 1 := by omega
        go_wp2_with fail
        go_region
        go_wp2_with fail
        go_ret2
        exact HE.out _ (Below.refl _ _).drew
      · go_wp2_with fail
        go_ret2
        exact HE.out _ (Below.refl _ _)
    · have h1' : decide ((n : Int) ≤ (m : Int)) = false := by simp; omega
      clear hg0 hlast
      have hk0 := leftN_pos n
      have hk1 := leftN_lt (n := n) (by omega)
      obtain ⟨i0, hi0, hz0, hz1, hz2⟩ := info_parts info_string
      by_cases hik : m ≤ leftN n
      · have IH := sides_any D old ho r m (leftN n) whole (some ⟨b, off, none⟩) c w ht (by omega) hm (by omega) hxr hA4 hmm
        have hsz := sidesR_size D.size old ho r m (leftN n) whole hxr
        have hlen := sidesR_len H old r m (leftN n) whole
        have hE : ∀ v' l, l ≠ .slice none 0 0 → StrOwn v' w.heap.size l ((⟨#[1]⟩ ++ (sidesR H old m (leftN n) whole r).2 ++ x) :: (sidesR H old m (leftN n) whole r).1) → Below w.heap.size w v' → SidesEnd (sidesR H old m n whole (x :: r)).1 (sidesR H old m n whole (x :: r)).2 w (.returned (.tuple #[l, .string (nodeS H (sidesR H old m (leftN n) whole r).2 x)])) v' := fun v' l e0 e1 e2 => ⟨_, by rw [sidesR_low H old x r (by omega) hik], by rw [sidesR_low H old x r (by omega) hik]; exact e1, (by rw [sidesR_low H old x r (by omega) hik]; intro h; cases h), e2⟩
        have HE := Lib.hid hE
        have HI := Lib.hid IH
        have HL := Lib.hid (left_any n w (by omega) hn)
        clear hE IH
        generalize (sidesR H old m (leftN n) whole r).1 = L at *
        generalize (sidesR H old m (leftN n) whole r).2 = v at *
        generalize leftN n = k at *
        go_enter Tryd.func34, Tryd.ntmps34
        go_wp2_with fail
        refine HL.out.mono ?_; rintro e w2 ⟨rfl, rfl⟩
        go_wp2_with fail
        refine HI.out.mono ?_; rintro e w3 ⟨l, rfl, hown, hnil, hb3⟩
        have hB3 := hb3.size
        have hb4 : Below w.heap.size w (w3.alloc (.cells #[.string (⟨#[1]⟩ ++ v ++ x)] 9)) := hb3.alloc hB3 _
        have hlit := StrOwn.lit w3 (⟨#[1]⟩ ++ v ++ x)
        rcases Nat.eq_zero_or_pos L.length with hz | hne
        · obtain rfl : L = [] := List.length_eq_zero_iff.1 hz
          obtain rfl := hnil rfl
          have hO := hlit.mono hB3
          have HO := Lib.hid hO
          have HB := Lib.hid hb4
          clear hlit hO hb4 hown
          go_wp2_with fail
          refine (D.node v x _ (D.below ht HB.out) (by omega) (by omega)).mono ?_; rintro e w5 ⟨rfl, hb6⟩
          have hf := HE.out w5 _ (by simp) (HO.out.below hb6) (below_step HB.out hb6)
          have HF := Lib.hid hf
          clear hf HE hb6
          go_wp2_with fail
          go_ret2
          exact HF.out
        · obtain ⟨g, cap, rfl, hg1, hg2, hcap, hcell⟩ := hown.open hne
          have hcell' : ∀ j u, (strV L)[j]? = some u → (w3.alloc (.cells #[.string (⟨#[1]⟩ ++ v ++ x)] 9)).cell? ((⟨g, 0, none⟩ : Addr).add j) = some u := fun j u hu =>
            (((Below.refl w3.heap.size w3).alloc (Nat.le_refl _) (.cells #[.string (⟨#[1]⟩ ++ v ++ x)] 9)).cell (p := (⟨g, 0, none⟩ : Addr).add j) (by rw [addr_block]; exact hg2)).trans (hcell j u hu)
          clear hown hcell hnil
          go_wp2_with (at_builtin; refine wpList_append_own _ rfl _ _ 26 rfl w3.heap.size 9 i0 (.string ⟨#[]⟩) 1 16 Tryd.underlying26 hi0 hz0 hz1 hz2 rfl (by decide) _ _ _ rfl hlit ⟨g, 0, none⟩ L.length cap (strV L) rfl (by simp [strV]) hcell' (strV_one L) (by simp only [List.length_singleton]; unfold maxLen; omega) (by simp only [List.length_singleton]; omega) (by simp) ?_; intro v' w4 hown' hgrow hnn)
          have hlt := fun k e => (hlit.lt k e).1
          have hb5 : Below w.heap.size w w4 := hb4.grown hgrow (by simp; omega) (fun k e => Nat.le_trans hB3 (hlt k e))
          have ho5 := (StrOwn.cons hown').mono hB3
          have hv' : v' ≠ .slice none 0 0 := fun e => absurd (hnn.1 e).2 (by omega)
          have HO := Lib.hid ho5
          have HB := Lib.hid hb5
          clear hown' hgrow hcell' hlit hlt hb4 hb5 ho5 hnn
          refine (D.node v x w4 (D.below ht HB.out) (by omega) (by omega)).mono ?_; rintro e w5 ⟨rfl, hb6⟩
          have hf := HE.out w5 _ hv' (HO.out.below hb6) (below_step HB.out hb6)
          have HF := Lib.hid hf
          clear hf HE hb6
          go_wp2_with fail
          go_ret2
          exact HF.out
      · have IH := sides_any D old ho r (m - leftN n) (n - leftN n) false (some ⟨b, off, none⟩) c w ht (by omega) (by omega) (by omega) hxr hA4 (by omega)
        have hsz := sidesR_size D.size old ho r (m - leftN n) (n - leftN n) false hxr
        have hlen := sidesR_len H old r (m - leftN n) (n - leftN n) false
        have hE : ∀ v' l, l ≠ .slice none 0 0 → StrOwn v' w.heap.size l ((⟨#[1]⟩ ++ x ++ (sidesR H old (m - leftN n) (n - leftN n) false r).2) :: (sidesR H old (m - leftN n) (n - leftN n) false r).1) → Below w.heap.size w v' → SidesEnd (sidesR H old m n whole (x :: r)).1 (sidesR H old m n whole (x :: r)).2 w (.returned (.tuple #[l, .string (nodeS H x (sidesR H old (m - leftN n) (n - leftN n) false r).2)])) v' := fun v' l e0 e1 e2 => ⟨_, by rw [sidesR_high H old x r (by omega) hik], by rw [sidesR_high H old x r (by omega) hik]; exact e1, (by rw [sidesR_high H old x r (by omega) hik]; intro h; cases h), e2⟩
        have HE := Lib.hid hE
        have HI := Lib.hid IH
        have HL := Lib.hid (left_any n w (by omega) hn)
        clear hE IH
        generalize (sidesR H old (m - leftN n) (n - leftN n) false r).1 = L at *
        generalize (sidesR H old (m - leftN n) (n - leftN n) false r).2 = v at *
        generalize leftN n = k at *
        have hik' : decide ((m : Int) ≤ (k : Int)) = false := by simp; omega
        have ei : ((m - k : Nat) : Int) = (m : Int) - (k : Int) := by omega
        have en : ((n - k : Nat) : Int) = (n : Int) - (k : Int) := by omega
        rw [ei, en] at HI
        go_enter Tryd.func34, Tryd.ntmps34
        go_wp2_with fail
        refine HL.out.mono ?_; rintro e w2 ⟨rfl, rfl⟩
        go_wp2_with fail
        refine HI.out.mono ?_; rintro e w3 ⟨l, rfl, hown, hnil, hb3⟩
        have hB3 := hb3.size
        have hb4 : Below w.heap.size w (w3.alloc (.cells #[.string (⟨#[1]⟩ ++ x ++ v)] 9)) := hb3.alloc hB3 _
        have hlit := StrOwn.lit w3 (⟨#[1]⟩ ++ x ++ v)
        rcases Nat.eq_zero_or_pos L.length with hz | hne
        · obtain rfl : L = [] := List.length_eq_zero_iff.1 hz
          obtain rfl := hnil rfl
          have hO := hlit.mono hB3
          have HO := Lib.hid hO
          have HB := Lib.hid hb4
          clear hlit hO hb4 hown
          go_wp2_with fail
          refine (D.node x v _ (D.below ht HB.out) (by omega) (by omega)).mono ?_; rintro e w5 ⟨rfl, hb6⟩
          have hf := HE.out w5 _ (by simp) (HO.out.below hb6) (below_step HB.out hb6)
          have HF := Lib.hid hf
          clear hf HE hb6
          go_wp2_with fail
          go_ret2
          exact HF.out
        · obtain ⟨g, cap, rfl, hg1, hg2, hcap, hcell⟩ := hown.open hne
          have hcell' : ∀ j u, (strV L)[j]? = some u → (w3.alloc (.cells #[.string (⟨#[1]⟩ ++ x ++ v)] 9)).cell? ((⟨g, 0, none⟩ : Addr).add j) = some u := fun j u hu =>
            (((Below.refl w3.heap.size w3).alloc (Nat.le_refl _) (.cells #[.string (⟨#[1]⟩ ++ x ++ v)] 9)).cell (p := (⟨g, 0, none⟩ : Addr).add j) (by rw [addr_block]; exact hg2)).trans (hcell j u hu)
          clear hown hcell hnil
          go_wp2_with (at_builtin; refine wpList_append_own _ rfl _ _ 26 rfl w3.heap.size 9 i0 (.string ⟨#[]⟩) 1 16 Tryd.underlying26 hi0 hz0 hz1 hz2 rfl (by decide) _ _ _ rfl hlit ⟨g, 0, none⟩ L.length cap (strV L) rfl (by simp [strV]) hcell' (strV_one L) (by simp only [List.length_singleton]; unfold maxLen; omega) (by simp only [List.length_singleton]; omega) (by simp) ?_; intro v' w4 hown' hgrow hnn)
          have hlt := fun k e => (hlit.lt k e).1
          have hb5 : Below w.heap.size w w4 := hb4.grown hgrow (by simp; omega) (fun k e => Nat.le_trans hB3 (hlt k e))
          have ho5 := (StrOwn.cons hown').mono hB3
          have hv' : v' ≠ .slice none 0 0 := fun e => absurd (hnn.1 e).2 (by omega)
          have HO := Lib.hid ho5
          have HB := Lib.hid hb5
          clear hown' hgrow hcell' hlit hlt hb4 hb5 ho5 hnn
          refine (D.node x v w4 (D.below ht HB.out) (by omega) (by omega)).mono ?_; rintro e w5 ⟨rfl, hb6⟩
          have hf := HE.out w5 _ hv' (HO.out.below hb6) (below_step HB.out hb6)
          have HF := Lib.hid hf
          clear hf HE hb6
          go_wp2_with fail
          go_ret2
          exact HF.out
end Go.Proofs.YtmmhilonmbnenaaDoor
