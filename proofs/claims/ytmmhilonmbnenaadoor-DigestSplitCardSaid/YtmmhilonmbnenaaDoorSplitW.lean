/-
  The walk of DigestSplit: it returns true for all arguments. Condition: the table of 64 words reads as the program's text lays it.
-/
import Derived.Test.YtmmhilonmbnenaaDoorExtAcc
namespace Go.Proofs.YtmmhilonmbnenaaDoor
open Go.RowKit Go.Shelf Tree

theorem StrA.news {w : World} {ad : Addr} {c : Nat} {L : List ByteArray} (h : StrA w (some ad) c L) : ∀ j u, (strV L)[j]? = some u → w.cell? (ad.add j) = some u := by
  intro j u hu
  have hj : j < L.length := by
    have := (List.getElem?_eq_some_iff.1 hu).1
    unfold strV at this
    rwa [List.length_map] at this
  obtain ⟨b, off, e, _⟩ := h.2.2 j hj
  cases e
  exact StrA.cells h j u hu
theorem append_none (w : World) (g c : Nat) (ty : TypeId) : (Builtin.append_ #[26, 26] ty #[.slice (some ⟨g, 0, none⟩) 0 0, .slice none 0 c]).run Tryd.prog w = .ok (.slice (some ⟨g, 0, none⟩) 0 0) w := by
  obtain ⟨i0, hi0, hz0, hz1, hz2⟩ := info_parts info_string
  simp [Builtin.append_, run_underlying Tryd.underlying26, sizeOf, typeInfo, hi0, Builtin.lenOf, run_firstCells_none, storeCells]
theorem TwoAt.tab {w V : World} {a b : Option Addr} {c d : Nat} {P Q : List ByteArray} (h : TwoAt w a c P b d Q V) : Tab V := h.1
theorem TwoAt.bel {w V : World} {a b : Option Addr} {c d : Nat} {P Q : List ByteArray} (h : TwoAt w a c P b d Q V) : Below w.heap.size w V := h.2.2.2
theorem ext_len_le (L : List ByteArray) (k : Nat) (hk : k ≤ L.length) : L.length < 1000 → (extS Sha.shaS L k).length < 1000 := fun h => by
  have h1 := (ext_accepted L k hk).2
  have h2 := binS_le 10 L.length (by omega)
  omega

set_option maxRecDepth 100000 in
set_option maxHeartbeats 1000000 in
theorem split_walk (pa : Option Addr) (pc : Nat) (P : List ByteArray) (s : ByteArray) (W : World) (ht : Tab W) (hp : StrA W pa pc P) (hpx : ∀ x ∈ P, x.size ≤ maxLen) (_hs : s.size ≤ maxLen) :
    Calls Tryd.prog 10 #[.slice pa P.length pc, .string s] W fun e w' => e = .returned (.bool true) ∧ Below W.heap.size W w' := by
  have H0 := Lib.hid (show OneAt W pa pc P W from ⟨ht, hp, Below.refl _ _⟩)
  have HPX := Lib.hid hpx
  obtain ⟨m, hm, hm', hm1, hm2⟩ := min60 s
  have hm3 : (m : Int) ≤ (s.size : Int) := by omega
  clear ht hp hpx
  obtain ⟨i0, hi0, hz0, hz1, hz2⟩ := info_parts info_string
  go_enter Tryd.func10, Tryd.ntmps10
  go_wp2_with fail
  refine (sane_any _ H0.out.1).mono ?_
  rintro e W1 ⟨rfl, hb1⟩
  have H1 := Lib.hid (H0.out.step hb1)
  clear hb1 H0
  go_wp2_with fail
  refine (few_list pa pc P 40 _ H1.out.2.1 (by decide) HPX.out).mono ?_
  rintro e W2 ⟨a2, c2, rfl, hA2, hb2⟩
  have H2 := Lib.hid (show OneAt W a2 c2 (fewS P 40) W2 from ⟨H1.out.1.below hb2, hA2, below_step H1.out.2.2 hb2⟩)
  clear hb2 H1 hA2
  have hfp := few_le P 40
  have HFP := Lib.hid (few_small P 40)
  clear HPX
  generalize fewS P 40 = L at *
  have hcs := cut60_le s
  have hlc := H2.out.2.1.1
  have hcm := H2.out.2.1.2.1
  unfold maxLen at hcm
  cases a2 with
  | none =>
    have hL0 : L = [] := by
      cases L with
      | nil => rfl
      | cons x r => obtain ⟨b, off, e, _⟩ := H2.out.2.1.2.2 0 (by simp); cases e
    subst hL0
    have hap := append_none
    have hown' : (W2.alloc (.cells #[] 9)).ownsRow W2.heap.size 9 1 (.slice (some ⟨W2.heap.size, 0, none⟩) 0 0) 0 [] := World.ownsRow_made W2 #[] 0 (Nat.le_refl _) (by decide) rfl
    obtain ⟨w4, hw4⟩ : ∃ X, X = W2.alloc (.cells #[] 9) := ⟨_, rfl⟩
    have hsz4 : W2.heap.size ≤ w4.heap.size := by rw [hw4]; simp
    rw [← hw4] at hown'
    subst hw4
    go_wp2_with (at_builtin; refine wpList_append_own _ rfl _ _ 26 rfl W2.heap.size 9 i0 (.string ⟨#[]⟩) 1 16 Tryd.underlying26 hi0 hz0 hz1 hz2 rfl (by decide) _ _ _ rfl (hown'.alloc _) ⟨(W2.alloc (.cells #[] 9)).heap.size, 0, none⟩ 1 1 [.string (cut60 s)] rfl rfl (cell_one_new _ _ _) (by simp [Value.oneCell']) (by unfold maxLen; omega) (by omega) (by have := hsz4; simp; omega) ?_; intro v5 w5 hown5 hgrow5 _)
    generalize hq : (Question.appendCap 1 0 9).cut (W2.tape W2.drawn (Question.appendCap 1 0 9)) = c5
    have hq1 : 1 ≤ c5 := hq ▸ grownCap_ge W2 1 0 9
    have hq2 : c5 ≤ maxLen := hq ▸ grownCap_le_maxLen W2 1 0 9 (by decide)
    clear hq
    have hbx : ∀ k, Below W2.heap.size W2 (((W2.alloc (.cells #[] 9)).alloc (.cells #[.string (cut60 s)] 9)).alloc (.cells (#[.string (cut60 s)] ++ Builtin.zeroCells #[.string ⟨#[]⟩] k) 9)).drew := fun k => ((((Below.refl _ _).alloc (Nat.le_refl _) _).alloc (by simp) _).alloc (by simp; omega) _).drew
    have hcx : ∀ k, (((W2.alloc (.cells #[] 9)).alloc (.cells #[.string (cut60 s)] 9)).alloc (.cells (#[.string (cut60 s)] ++ Builtin.zeroCells #[.string ⟨#[]⟩] k) 9)).drew.heap[W2.heap.size + 1 + 1]? = some (.cells (#[.string (cut60 s)] ++ Builtin.zeroCells #[.string ⟨#[]⟩] k) 9 (0, 0)) := fun k => by
      have := heap_alloc_new ((W2.alloc (.cells #[] 9)).alloc (.cells #[.string (cut60 s)] 9)) (.cells (#[.string (cut60 s)] ++ Builtin.zeroCells #[.string ⟨#[]⟩] k) 9)
      rw [World.size_alloc, World.size_alloc] at this
      exact this
    have hAx : ∀ k, StrA (((W2.alloc (.cells #[] 9)).alloc (.cells #[.string (cut60 s)] 9)).alloc (.cells (#[.string (cut60 s)] ++ Builtin.zeroCells #[.string ⟨#[]⟩] k) 9)).drew (some ⟨W2.heap.size + 1 + 1, 0, none⟩) c5 [cut60 s] := fun k => by
      refine ⟨hq1, hq2, fun i hi => ⟨W2.heap.size + 1 + 1, 0, rfl, (Array.getElem?_eq_some_iff.1 (hcx k)).1, ?_⟩⟩
      obtain rfl : i = 0 := by simp at hi; omega
      rw [cell_of_row _ _ (0 + 0) _ _ _ (hcx k), Array.getElem?_append_left (by simp)]
      rfl
    have H5x := Lib.hid (fun k => show TwoAt W none c2 [] (some ⟨W2.heap.size + 1 + 1, 0, none⟩) c5 [cut60 s] _ from ⟨H2.out.1.below (hbx k), H2.out.2.1.below (hbx k), hAx k, below_step H2.out.2.2 (hbx k)⟩)
    clear hbx hcx hAx H2 hown' hap hm hm' hm2
    have H5 := Lib.hid (H5x.out (c5 - 1))
    obtain ⟨a5, ha5⟩ : ∃ a5 : Option Addr, a5 = some ⟨W2.heap.size + 1 + 1, 0, none⟩ := ⟨_, rfl⟩
    rw [← ha5] at H5 ⊢
    clear ha5 H5x
    obtain ⟨w5, hw5⟩ : ∃ X, X = (((W2.alloc (.cells #[] 9)).alloc (.cells #[.string (cut60 s)] 9)).alloc (.cells (#[.string (cut60 s)] ++ Builtin.zeroCells #[.string ⟨#[]⟩] (c5 - 1)) 9)).drew := ⟨_, rfl⟩
    rw [← hw5] at H5 ⊢
    clear hw5
    have HMS := Lib.hid (show ∀ x ∈ [cut60 s], x.size ≤ 1000 from fun x hx => by rw [List.mem_singleton] at hx; subst hx; omega)
    have HML := Lib.hid (show ([cut60 s] : List ByteArray).length < 1000 by simp)
    have HLM := Lib.hid (show ([] : List ByteArray).length ≤ ([cut60 s] : List ByteArray).length by simp)
    have HTK := Lib.hid (show ([cut60 s] : List ByteArray).take ([] : List ByteArray).length = [] from rfl)
    have HLS := Lib.hid (show ∀ x ∈ ([] : List ByteArray), x.size ≤ 1000 from fun x hx => by cases hx)
    have hMs : ∀ x ∈ [cut60 s], x.size ≤ 1000 := HMS.out
    have hML : ([cut60 s]).length < 1000 := HML.out
    have hX := fun V (h : TwoAt W none c2 ([] : List ByteArray) a5 c5 [cut60 s] V) => ext_at [cut60 s] ((([] : List ByteArray)).length : Nat) a5 c5 V h.1 h.2.2.1 hMs (by omega) (by have := HLM.out; omega) _ rfl
    rw [Int.toNat_natCast] at hX
    obtain ⟨hacc, hlen⟩ := ext_accepted [cut60 s] (([] : List ByteArray)).length (by have := HLM.out; omega)
    rw [HTK.out] at hacc
    have hel := ext_len_le [cut60 s] (([] : List ByteArray)).length (by have := HLM.out; omega) HML.out
    have hV := fun V a' c' (h : Tab V) (hS : StrA V a' c' (extS Sha.shaS [cut60 s] (([] : List ByteArray)).length)) => vext_all (rootS Sha.shaS ([] : List ByteArray)) (rootS Sha.shaS [cut60 s]) ((([] : List ByteArray)).length : Nat) (([cut60 s]).length : Nat) (extS Sha.shaS [cut60 s] (([] : List ByteArray)).length) a' c' V h hS (by omega) (by omega)
    rw [hacc] at hV
    have hR1 := fun V (h : TwoAt W none c2 ([] : List ByteArray) a5 c5 [cut60 s] V) => root_any (([] : List ByteArray)).length ([] : List ByteArray) none c2 V (Nat.le_refl _) h.1 h.2.1 HLS.out
    have hR2 := fun V (h : TwoAt W none c2 ([] : List ByteArray) a5 c5 [cut60 s] V) => root_any ([cut60 s]).length [cut60 s] a5 c5 V (Nat.le_refl _) h.1 h.2.2.1 hMs
    generalize extS Sha.shaS [cut60 s] (([] : List ByteArray)).length = X at *
    have HX := Lib.hid hX
    have HV := Lib.hid hV
    have HR1 := Lib.hid hR1
    have HR2 := Lib.hid hR2
    clear hX hV hR1 hR2 hacc hlen hMs
    refine (HX.out _ H5.out).mono ?_
    rintro e V6 ⟨a6, c6, rfl, hA6, hb6⟩
    have H6 := Lib.hid (And.intro (H5.out.step hb6) hA6)
    clear hb6 hA6 H5
    go_wp2_with fail
    refine (HR1.out _ H6.out.1).mono ?_
    rintro e V7 ⟨rfl, hb7⟩
    have H7 := Lib.hid (And.intro (H6.out.1.step hb7) (H6.out.2.below hb7))
    clear hb7 H6
    go_wp2_with fail
    refine (HR2.out _ H7.out.1).mono ?_
    rintro e V8 ⟨rfl, hb8⟩
    have H8 := Lib.hid (And.intro (H7.out.1.step hb8) (H7.out.2.below hb8))
    clear hb8 H7
    go_wp2_with fail
    refine (HV.out _ _ _ H8.out.1.1 H8.out.2).mono ?_
    rintro e V9 ⟨rfl, hb9⟩
    have H9 := Lib.hid (H8.out.1.step hb9)
    clear hb9 H8 HX HV
    go_wp2_with fail
    refine (HR2.out _ H9.out).mono ?_
    rintro e V10 ⟨rfl, hb10⟩
    have H10 := Lib.hid (H9.out.step hb10)
    clear hb10 H9
    go_wp2_with fail
    refine (leaf_any (cut60 s) _ H10.out.1 (by omega)).mono ?_
    rintro e V11 ⟨rfl, hb11⟩
    have H11 := Lib.hid (H10.out.step hb11)
    clear hb11 H10
    have hr1 : rootS Sha.shaS [cut60 s] = leafS Sha.shaS (cut60 s) := rootS_one Sha.shaS (cut60 s)
    have hr0 : rootS Sha.shaS ([] : List ByteArray) = Sha.shaS ⟨#[]⟩ := rootS_nil Sha.shaS
    have hE1 : ((rootS Sha.shaS [cut60 s]).toList == (leafS Sha.shaS (cut60 s)).toList) = true := by rw [hr1]; simp
    have hE1' : (rootS Sha.shaS [cut60 s]).toList = (leafS Sha.shaS (cut60 s)).toList := by rw [hr1]
    have hE0 : ((rootS Sha.shaS ([] : List ByteArray)).toList == (Sha.shaS ⟨#[]⟩).toList) = true := by rw [hr0]; simp
    clear hr1 hr0
    generalize rootS Sha.shaS [cut60 s] = g1 at *
    generalize rootS Sha.shaS ([] : List ByteArray) = g0 at *
    generalize leafS Sha.shaS (cut60 s) = g2 at *
    have HSUM := Lib.hid (fun V (h : Tab V) => sum_any ⟨#[]⟩ V h (by decide))
    generalize Sha.shaS ⟨#[]⟩ = g3 at *
    go_wp2_with fail
    refine (HR1.out _ H11.out).mono ?_
    rintro e V12 ⟨rfl, hb12⟩
    have H12 := Lib.hid (H11.out.step hb12)
    clear hb12 H11
    go_wp2_with fail
    refine (HSUM.out _ H12.out.1).mono ?_
    rintro e V13 ⟨rfl, hb13⟩
    have H13 := Lib.hid (H12.out.step hb13)
    clear hb13 H12
    go_wp2_with fail
    go_ret
    exact ⟨rfl, H13.out.2.2.2⟩
  | some ad =>
    have hne : ad = ad := rfl
    have hown : (W2.alloc (.cells #[] 9)).ownsRow W2.heap.size 9 1 (.slice (some ⟨W2.heap.size, 0, none⟩) 0 0) 0 [] := World.ownsRow_made W2 #[] 0 (Nat.le_refl _) (by decide) rfl
    have hb3 : Below W2.heap.size W2 (W2.alloc (.cells #[] 9)) := (Below.refl _ _).alloc (Nat.le_refl _) _
    have hnews := StrA.news (H2.out.2.1.below hb3)
    go_wp2_with (at_builtin; first | (refine wpList_append_own _ rfl _ _ 26 rfl W2.heap.size 9 i0 (.string ⟨#[]⟩) 1 16 Tryd.underlying26 hi0 hz0 hz1 hz2 rfl (by decide) _ _ _ rfl hown ad L.length c2 (strV L) rfl (by simp [strV]) hnews (strV_one L) (by unfold maxLen; omega) (by omega) (by simp) ?_; intro v' w4 hown' hgrow _; have hsz4 : W2.heap.size ≤ w4.heap.size := (by have := hgrow.size; simp at this; omega)) | (refine wpList_append_own _ rfl _ _ 26 rfl W2.heap.size 9 i0 (.string ⟨#[]⟩) 1 16 Tryd.underlying26 hi0 hz0 hz1 hz2 rfl (by decide) _ _ _ rfl (hown'.alloc _) ⟨w4.heap.size, 0, none⟩ 1 1 [.string (cut60 s)] rfl rfl (cell_one_new _ _ _) (by simp [Value.oneCell']) (by unfold maxLen; omega) (by omega) (by have := hsz4; simp; omega) ?_; intro v5 w5 hown5 hgrow5 _))
    have hb5 : Below W2.heap.size W2 w4 := ((Below.refl _ W2).alloc (Nat.le_refl _) _).grown hgrow (by simp) (fun k e => (hown.lt k e).1)
    have hb6 : Below W2.heap.size W2 w5 := (hb5.alloc hsz4 _).grown hgrow5 (by simp; omega) (fun k e => (hown'.lt k e).1)
    have ho5 : StrOwn w5 W2.heap.size v5 (L ++ [cut60 s]) := by
      unfold StrOwn strV
      rw [List.length_append, List.map_append]
      rw [Nat.zero_add, List.nil_append] at hown5
      exact hown5
    obtain ⟨M, hM⟩ : ∃ M, M = L ++ [cut60 s] := ⟨_, rfl⟩
    rw [← hM] at ho5
    have hM1 : M.length = L.length + 1 := by rw [hM]; simp
    obtain ⟨a5, c5, rfl, hA5⟩ := ho5.arg
    have H5 := Lib.hid (show TwoAt W (some ad) c2 L a5 c5 M w5 from ⟨H2.out.1.below hb6, H2.out.2.1.below hb6, hA5, below_step H2.out.2.2 hb6⟩)
    clear hown hb3 hnews hown' hgrow hown5 hgrow5 hb5 hb6 ho5 hA5 H2 hm hm' hm2
    have HLS := Lib.hid (show ∀ x ∈ L, x.size ≤ 1000 from fun x hx => Nat.le_trans (HFP.out x hx) (by decide))
    have HMS := Lib.hid (show ∀ x ∈ M, x.size ≤ 1000 from fun x hx => by
      rw [hM] at hx
      rcases List.mem_append.1 hx with h | h
      · exact HLS.out x h
      · rw [List.mem_singleton] at h; subst h; omega)
    have HML := Lib.hid (show M.length < 1000 by omega)
    have HLM := Lib.hid (show L.length ≤ M.length by omega)
    have HTK := Lib.hid (show M.take L.length = L by rw [hM]; exact List.take_left)
    have HM := Lib.hid (And.intro hM hM1)
    clear hM hM1
    have hMs : ∀ x ∈ M, x.size ≤ 1000 := HMS.out
    have hML : (M).length < 1000 := HML.out
    have hX := fun V (h : TwoAt W (some ad) c2 L a5 c5 M V) => ext_at M ((L).length : Nat) a5 c5 V h.1 h.2.2.1 hMs (by omega) (by have := HLM.out; omega) _ rfl
    rw [Int.toNat_natCast] at hX
    obtain ⟨hacc, hlen⟩ := ext_accepted M (L).length (by have := HLM.out; omega)
    rw [HTK.out] at hacc
    have hel := ext_len_le M (L).length (by have := HLM.out; omega) HML.out
    have hV := fun V a' c' (h : Tab V) (hS : StrA V a' c' (extS Sha.shaS M (L).length)) => vext_all (rootS Sha.shaS L) (rootS Sha.shaS M) ((L).length : Nat) ((M).length : Nat) (extS Sha.shaS M (L).length) a' c' V h hS (by omega) (by omega)
    rw [hacc] at hV
    have hR1 := fun V (h : TwoAt W (some ad) c2 L a5 c5 M V) => root_any (L).length L (some ad) c2 V (Nat.le_refl _) h.1 h.2.1 HLS.out
    have hR2 := fun V (h : TwoAt W (some ad) c2 L a5 c5 M V) => root_any (M).length M a5 c5 V (Nat.le_refl _) h.1 h.2.2.1 hMs
    generalize extS Sha.shaS M (L).length = X at *
    have HX := Lib.hid hX
    have HV := Lib.hid hV
    have HR1 := Lib.hid hR1
    have HR2 := Lib.hid hR2
    clear hX hV hR1 hR2 hacc hlen hMs
    refine (HX.out _ H5.out).mono ?_
    rintro e V6 ⟨a6, c6, rfl, hA6, hb6⟩
    have H6 := Lib.hid (And.intro (H5.out.step hb6) hA6)
    clear hb6 hA6 H5
    go_wp2_with fail
    refine (HR1.out _ H6.out.1).mono ?_
    rintro e V7 ⟨rfl, hb7⟩
    have H7 := Lib.hid (And.intro (H6.out.1.step hb7) (H6.out.2.below hb7))
    clear hb7 H6
    go_wp2_with fail
    refine (HR2.out _ H7.out.1).mono ?_
    rintro e V8 ⟨rfl, hb8⟩
    have H8 := Lib.hid (And.intro (H7.out.1.step hb8) (H7.out.2.below hb8))
    clear hb8 H7
    go_wp2_with fail
    refine (HV.out _ _ _ H8.out.1.1 H8.out.2).mono ?_
    rintro e V9 ⟨rfl, hb9⟩
    have H9 := Lib.hid (H8.out.1.step hb9)
    clear hb9 H8 HX HV
    by_cases hL0 : L.length = 0
    · have hz : ((L.length : Int) == 0) = true := by simp [hL0]
      have hLn : L = [] := List.eq_nil_of_length_eq_zero hL0
      have HLN := Lib.hid hLn
      clear hL0 hLn
      go_wp2_with fail
      refine (HR2.out _ H9.out).mono ?_
      rintro e V10 ⟨rfl, hb10⟩
      have H10 := Lib.hid (H9.out.step hb10)
      clear hb10 H9
      go_wp2_with fail
      refine (leaf_any (cut60 s) _ H10.out.1 (by omega)).mono ?_
      rintro e V11 ⟨rfl, hb11⟩
      have H11 := Lib.hid (H10.out.step hb11)
      clear hb11 H10
      have hr1 : rootS Sha.shaS M = leafS Sha.shaS (cut60 s) := by rw [HM.out.1, HLN.out]; exact rootS_one Sha.shaS (cut60 s)
      have hr0 : rootS Sha.shaS L = Sha.shaS ⟨#[]⟩ := by rw [HLN.out]; exact rootS_nil Sha.shaS
      have hE1 : ((rootS Sha.shaS M).toList == (leafS Sha.shaS (cut60 s)).toList) = true := by rw [hr1]; simp
      have hE1' : (rootS Sha.shaS M).toList = (leafS Sha.shaS (cut60 s)).toList := by rw [hr1]
      have hE0 : ((rootS Sha.shaS L).toList == (Sha.shaS ⟨#[]⟩).toList) = true := by rw [hr0]; simp
      clear hr1 hr0
      generalize rootS Sha.shaS M = g1 at *
      generalize rootS Sha.shaS L = g0 at *
      generalize leafS Sha.shaS (cut60 s) = g2 at *
      have HSUM := Lib.hid (fun V (h : Tab V) => sum_any ⟨#[]⟩ V h (by decide))
      generalize Sha.shaS ⟨#[]⟩ = g3 at *
      go_wp2_with fail
      refine (HR1.out _ H11.out).mono ?_
      rintro e V12 ⟨rfl, hb12⟩
      have H12 := Lib.hid (H11.out.step hb12)
      clear hb12 H11
      go_wp2_with fail
      refine (HSUM.out _ H12.out.1).mono ?_
      rintro e V13 ⟨rfl, hb13⟩
      have H13 := Lib.hid (H12.out.step hb13)
      clear hb13 H12
      go_wp2_with fail
      go_ret
      exact ⟨rfl, H13.out.2.2.2⟩
    · have hz : ((L.length : Int) == 0) = false := beq_eq_false_iff_ne.2 (by omega)
      have hkl := left_any M.length
      have hk1 := leftN_lt (n := M.length) (by have := HM.out.2; omega)
      have hk0 := leftN_pos M.length
      have hr2 := rootS_two Sha.shaS (l := M) (by have := HM.out.2; omega)
      have hT := fun V (h : TwoAt W (some ad) c2 L a5 c5 M V) => root_any M.length (M.take (leftN M.length)) a5 c5 V (by rw [List.length_take]; omega) h.1 (h.2.2.1.take _) (fun x hx => HMS.out x (List.mem_of_mem_take hx))
      rw [show (M.take (leftN M.length)).length = leftN M.length by rw [List.length_take]; omega] at hT
      obtain ⟨b5, o5, rfl, _⟩ := H9.out.2.2.1.place (by have := HM.out.2; omega)
      have hD := fun V (h : TwoAt W (some ad) c2 L (some ⟨b5, o5, none⟩) c5 M V) => root_any M.length (M.drop (leftN M.length)) (some ⟨b5, o5 + leftN M.length, none⟩) (c5 - leftN M.length) V (by rw [List.length_drop]; omega) h.1 (h.2.2.1.drop _) (fun x hx => HMS.out x (List.mem_of_mem_drop hx))
      rw [show (M.drop (leftN M.length)).length = M.length - leftN M.length from List.length_drop] at hD
      have hz1 := rootS_size Sha.shaS Sha.shaS_size (M.take (leftN M.length))
      have hz2 := rootS_size Sha.shaS Sha.shaS_size (M.drop (leftN M.length))
      have hc5 := H9.out.2.2.1.1
      have hm5 := H9.out.2.2.1.2.1
      unfold maxLen at hm5
      have hEQ : ((rootS Sha.shaS M).toList == (nodeS Sha.shaS (rootS Sha.shaS (M.take (leftN M.length))) (rootS Sha.shaS (M.drop (leftN M.length)))).toList) = true := by rw [← hr2]; simp
      have hEQ' : (rootS Sha.shaS M).toList = (nodeS Sha.shaS (rootS Sha.shaS (M.take (leftN M.length))) (rootS Sha.shaS (M.drop (leftN M.length)))).toList := by rw [← hr2]
      clear hr2
      have HKL := Lib.hid (fun V => hkl V (by have := HM.out.2; omega) (by have := HML.out; omega))
      generalize rootS Sha.shaS (M.take (leftN M.length)) = g1 at *
      generalize rootS Sha.shaS (M.drop (leftN M.length)) = g2 at *
      generalize rootS Sha.shaS M = g0 at *
      generalize leftN M.length = k at *
      have HT := Lib.hid hT
      have HDD := Lib.hid hD
      have HN := Lib.hid (fun V (h : Tab V) => node_any g1 g2 V h (by omega) (by omega))
      generalize nodeS Sha.shaS g1 g2 = g3 at *
      clear hT hD hkl
      have hck : ¬ c5 = k := by omega
      have hck' : (c5 == k) = false := by simp; omega
      have hkn : (k : Int) ≤ (M.length : Int) := by omega
      have hkc : (k : Int) ≤ (c5 : Int) := by omega
      have hnc : (M.length : Int) ≤ (c5 : Int) := by omega
      go_wp2_with fail
      refine (HKL.out _).mono ?_
      rintro e V10 ⟨rfl, rfl⟩
      go_wp2_with fail
      have h0 : TwoAt W (some ad) c2 L (some ⟨b5, o5, none⟩) c5 M V9.drew := H9.out.step (Below.refl _ _).drew
      go_region_held3 (fun w' => TwoAt W (some ad) c2 L (some ⟨b5, o5, none⟩) c5 M w') (first | exact h0 | exact TwoAt.step (by assumption) hb4)
        (first | (go_at_call 26; ((with_reducible refine (HR2.out _ (by assumption)).mono ?_); rintro e w4 ⟨rfl, hb4⟩)) | (go_at_call 26; ((with_reducible refine (HT.out _ (by assumption)).mono ?_); rintro e w4 ⟨rfl, hb4⟩)) | (go_at_call 26; ((with_reducible refine (HDD.out _ (by assumption)).mono ?_); rintro e w4 ⟨rfl, hb4⟩)) | (go_at_call 16; ((with_reducible refine (HN.out _ (TwoAt.tab (by assumption))).mono ?_); rintro e w4 ⟨rfl, hb4⟩)))
      go_wp2_with fail
      go_ret
      exact ⟨rfl, TwoAt.bel (by assumption)⟩
end Go.Proofs.YtmmhilonmbnenaaDoor
