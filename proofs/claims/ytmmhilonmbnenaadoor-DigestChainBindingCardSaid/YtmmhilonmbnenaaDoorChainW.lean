/-
  The statements' collide for all lists: it returns; and the walk of DigestChainBinding: it returns true for all arguments. Condition: the table of 64 words reads as the program's text lays it.
-/
import Derived.Test.YtmmhilonmbnenaaDoorHeads
import Derived.Test.YtmmhilonmbnenaaDoorBind
import Derived.Deep.RegionWith
namespace Go.Proofs.YtmmhilonmbnenaaDoor
open Go.RowKit Go.Shelf Tree

/-- A call has ended with a bool. -/
def SomeBool (e : Ending) : Prop := ∃ q, e = .returned (.bool q)
theorem someBool (q : Bool) : SomeBool (.returned (.bool q)) := ⟨q, rfl⟩

set_option maxRecDepth 100000 in
set_option maxHeartbeats 8000000 in
theorem collide_all {H : ByteArray → ByteArray} {T : World → Prop} (D : Digests H T) (A B : List ByteArray) (a b : Option Addr) (c d : Nat) (w : World) (ht : T w) (hA : StrA w a c A) (hB : StrA w b d B) (hx : ∀ x ∈ A, x.size ≤ 1000) (hy : ∀ x ∈ B, x.size ≤ 1000) :
    Calls Tryd.prog 32 #[.slice a A.length c, .slice b B.length d] w fun e w' => SomeBool e ∧ Below w.heap.size w w' := by
  have HA := Lib.hid hA
  have HB := Lib.hid hB
  have hca := hA.1
  have hcb := hB.1
  have hma := hA.2.1
  have hmb := hB.2.1
  unfold maxLen at hma hmb
  clear hA hB
  go_enter Tryd.func32, Tryd.ntmps32
  go_wp2_with fail
  go_loopw [5] (fun v wr => ∃ k : Nat, k ≤ A.length ∧ v = .int .i64 k ∧ Below w.heap.size w wr) (fun v _ => A.length - (intOf v).toNat)
  case atStart => exact ⟨0, by omega, rfl, Below.refl _ _⟩
  case round =>
    obtain ⟨k, hk, rfl, hbr⟩ := hrel
    by_cases hka : k < A.length
    · by_cases hkb : k < B.length
      · obtain ⟨p, off, rfl, l1, l2⟩ := HA.out.2.2 k hka
        obtain ⟨p', off', rfl, m1, m2⟩ := HB.out.2.2 k hkb
        have hsx := hx _ (List.getElem_mem hka)
        have hsy := hy _ (List.getElem_mem hkb)
        have hki : (k : Int) < (A.length : Int) := by omega
        have hkj : (k : Int) < (B.length : Int) := by omega
        have HKA := Lib.hid hka
        generalize A[k] = u at *
        generalize B[k] = v at *
        have hC1 : ∀ W, Below w.heap.size w W → W.cell? ⟨p, off + k, none⟩ = some (.string u) := fun W hb => (hb.cell (p := ⟨p, off + k, none⟩) l1).trans l2
        have hC2 : ∀ W, Below w.heap.size w W → W.cell? ⟨p', off' + k, none⟩ = some (.string v) := fun W hb => (hb.cell (p := ⟨p', off' + k, none⟩) m1).trans m2
        have hb0 : Below w.heap.size w wr.drew := hbr.drew
        have HC1 := Lib.hid hC1
        have HC2 := Lib.hid hC2
        have SU := Lib.hid (fun W hb => D.sum u W (D.below ht hb) (by omega))
        have SV := Lib.hid (fun W hb => D.sum v W (D.below ht hb) (by omega))
        clear hC1 hC2 l1 l2 m1 m2 hx hy hka hkb
        by_cases huv : u = v
        · subst huv
          have c1 := HC1.out wr hbr
          have c2 := HC2.out wr hbr
          go_wp2_with fail
          go_quiet (fail)
          go_wp2_with fail
          go_roundw
          case rel => exact ⟨k + 1, by omega, by go_num, below_drewN hbr _⟩
          case measure => simp [intOf]; omega
        · have hne : (u.toList == v.toList) = false := beq_eq_false_iff_ne.2 (fun e => huv (toList_iff.1 e))
          generalize H u = hu at *
          generalize H v = hv at *
          have hK := fun (W W' : World) (h : W.cell? ⟨p, off + k, none⟩ = some (.string u) ∧ W.cell? ⟨p', off' + k, none⟩ = some (.string v) ∧ Below w.heap.size w W) (hb : Below W.heap.size W W') =>
            (show W'.cell? ⟨p, off + k, none⟩ = some (.string u) ∧ W'.cell? ⟨p', off' + k, none⟩ = some (.string v) ∧ Below w.heap.size w W' from ⟨HC1.out _ (below_step h.2.2 hb), HC2.out _ (below_step h.2.2 hb), below_step h.2.2 hb⟩)
          have HK := Lib.hid hK
          clear hK
          cases hq : (hu.toList == hv.toList) with
          | true =>
            go_wp2_with fail
            go_region_held3 (fun w' => w'.cell? ⟨p, off + k, none⟩ = some (.string u) ∧ w'.cell? ⟨p', off' + k, none⟩ = some (.string v) ∧ Below w.heap.size w w') (first | exact ⟨HC1.out _ hb0, HC2.out _ hb0, hb0⟩ | exact HK.out _ _ (by assumption) hb4)
              (first | (go_at_call 12; refine (SU.out _ (And.right (And.right (by assumption)))).mono ?_; rintro e w4 ⟨rfl, hb4⟩) | (go_at_call 12; refine (SV.out _ (And.right (And.right (by assumption)))).mono ?_; rintro e w4 ⟨rfl, hb4⟩))
            go_wp2_with fail
            go_ret
            exact ⟨someBool _, And.right (And.right (by assumption))⟩
          | false =>
            go_wp2_with fail
            go_region_held3 (fun w' => w'.cell? ⟨p, off + k, none⟩ = some (.string u) ∧ w'.cell? ⟨p', off' + k, none⟩ = some (.string v) ∧ Below w.heap.size w w') (first | exact ⟨HC1.out _ hb0, HC2.out _ hb0, hb0⟩ | exact HK.out _ _ (by assumption) hb4)
              (first | (go_at_call 12; refine (SU.out _ (And.right (And.right (by assumption)))).mono ?_; rintro e w4 ⟨rfl, hb4⟩) | (go_at_call 12; refine (SV.out _ (And.right (And.right (by assumption)))).mono ?_; rintro e w4 ⟨rfl, hb4⟩))
            go_wp2_with fail
            go_roundw
            case rel => exact ⟨k + 1, by have := HKA.out; omega, by go_num, And.right (And.right (by assumption))⟩
            case measure => have := HKA.out; simp [intOf]; omega
      · have hkj : ¬ ((k : Int) < (B.length : Int)) := by omega
        have hki : (k : Int) < (A.length : Int) := by omega
        clear hka hkb hx hy
        go_wp2_with fail
        go_ret
        exact ⟨someBool _, hbr⟩
    · have hki : ¬ ((k : Int) < (A.length : Int)) := by omega
      clear hka hx hy
      go_wp2_with fail
      go_ret
      exact ⟨someBool _, hbr⟩

theorem heads_bd (L : List ByteArray) (hx : ∀ x ∈ L, x.size ≤ 60) : ∀ x ∈ headsR Sha.shaS L, x.size ≤ 1000 := by
  induction L with
  | nil => intro x h; cases h
  | cons y r ih =>
    intro x h
    rcases List.mem_cons.1 (show x ∈ (⟨#[2]⟩ ++ headR Sha.shaS r ++ y) :: headsR Sha.shaS r from h) with rfl | h
    · rw [ByteArray.size_append, ByteArray.size_append, headR_size Sha.shaS Sha.shaS_size]
      have := hx y (List.mem_cons_self ..)
      show 1 + 32 + y.size ≤ 1000
      omega
    · exact ih (fun z hz => hx z (List.mem_cons_of_mem _ hz)) x h

set_option maxRecDepth 100000 in
set_option maxHeartbeats 8000000 in
theorem chainBinding_walk (pa : Option Addr) (pc : Nat) (P : List ByteArray) (qa : Option Addr) (qc : Nat) (Q : List ByteArray) (W : World) (ht : Tab W)
    (hp : StrA W pa pc P) (hpx : ∀ x ∈ P, x.size ≤ maxLen) (hq : StrA W qa qc Q) (hqx : ∀ x ∈ Q, x.size ≤ maxLen) :
    Calls Tryd.prog 8 #[.slice pa P.length pc, .slice qa Q.length qc] W fun e w' => e = .returned (.bool true) ∧ Below W.heap.size W w' := by
  have H0 := Lib.hid (two_start ht hp hq)
  have HPX := Lib.hid hpx
  have HQX := Lib.hid hqx
  clear ht hp hq hpx hqx
  go_enter Tryd.func8, Tryd.ntmps8
  go_wp2_with fail
  refine (sane_any _ H0.out.1).mono ?_
  rintro e W1 ⟨rfl, hb1⟩
  have H1 := Lib.hid (H0.out.step hb1)
  clear hb1 H0
  go_wp2_with fail
  refine (few_list pa pc P 20 _ H1.out.2.1 (by decide) HPX.out).mono ?_
  rintro e W2 ⟨a2, c2, rfl, hA2, hb2⟩
  have H2 := Lib.hid (And.intro (H1.out.step hb2) hA2)
  clear hb2 H1 hA2
  go_wp2_with fail
  refine (few_list qa qc Q 20 _ H2.out.1.2.2.1 (by decide) HQX.out).mono ?_
  rintro e W3 ⟨a3, c3, rfl, hA3, hb3⟩
  have H3 := Lib.hid (show TwoAt W a2 c2 (fewS P 20) a3 c3 (fewS Q 20) W3 from ⟨H2.out.1.1.below hb3, H2.out.2.below hb3, hA3, below_step H2.out.1.2.2.2 hb3⟩)
  clear hb3 H2 hA3
  have hfp := few_le P 20
  have hfq := few_le Q 20
  have HFP := Lib.hid (few_small P 20)
  have HFQ := Lib.hid (few_small Q 20)
  clear HPX HQX
  generalize fewS P 20 = A at *
  generalize fewS Q 20 = B at *
  have hX1 := heads_bd A.reverse (fun x hx => HFP.out x (List.mem_reverse.1 hx))
  have hX2 := heads_bd B.reverse (fun x hx => HFQ.out x (List.mem_reverse.1 hx))
  have hs1 := headR_size Sha.shaS Sha.shaS_size A.reverse
  have hs2 := headR_size Sha.shaS Sha.shaS_size B.reverse
  have hl1 : (headsR Sha.shaS A.reverse).length = A.length := by rw [headsR_length, List.length_reverse]
  have hl2 : (headsR Sha.shaS B.reverse).length = B.length := by rw [headsR_length, List.length_reverse]
  have hcb : A ≠ B → headR Sha.shaS A.reverse = headR Sha.shaS B.reverse → Clash Sha.shaS (headsR Sha.shaS A.reverse) (headsR Sha.shaS B.reverse) ∨ (A.length < B.length ∧ ∃ x, (headsR Sha.shaS B.reverse)[A.length]? = some x ∧ Sha.shaS x = zeros) ∨ (B.length < A.length ∧ ∃ x, (headsR Sha.shaS A.reverse)[B.length]? = some x ∧ Sha.shaS x = zeros) := fun h1 h2 => by
    have := chain_binding Sha.shaS Sha.shaS_size A.reverse B.reverse (fun e => h1 (List.reverse_inj.1 e)) h2
    rwa [List.length_reverse, List.length_reverse] at this
  have hsame : A = B → headR Sha.shaS A.reverse = headR Sha.shaS B.reverse := fun e => by rw [e]
  have HE1 := Lib.hid (fun V h1 h2 => heads_any a2 c2 A V h1 h2 (by omega) (fun x hx => Nat.le_trans (HFP.out x hx) (by decide)))
  have HE2 := Lib.hid (fun V h1 h2 => heads_any a3 c3 B V h1 h2 (by omega) (fun x hx => Nat.le_trans (HFQ.out x hx) (by decide)))
  generalize headR Sha.shaS A.reverse = h at *
  generalize headR Sha.shaS B.reverse = k at *
  generalize headsR Sha.shaS A.reverse = X at *
  generalize headsR Sha.shaS B.reverse = Y at *
  have HC := Lib.hid (And.intro hcb (And.intro hsame (And.intro hl1 (And.intro hl2 (And.intro hX1 hX2)))))
  clear hcb hsame hl1 hl2 hX1 hX2
  go_wp2_with fail
  refine (HE1.out _ H3.out.1 H3.out.2.1).mono ?_
  rintro e W4 ⟨l1, rfl, ho1, hb4⟩
  obtain ⟨b1, d1, rfl, hA1⟩ := ho1.arg
  have H4 := Lib.hid (And.intro (H3.out.step hb4) hA1)
  clear ho1 hA1 hb4 H3 HE1
  go_wp2_with fail
  refine (HE2.out _ H4.out.1.1 H4.out.1.2.2.1).mono ?_
  rintro e W5 ⟨l2, rfl, ho2, hb5⟩
  obtain ⟨b2, d2, rfl, hA2⟩ := ho2.arg
  have H5 := Lib.hid (And.intro (H4.out.1.step hb5) (And.intro (H4.out.2.below hb5) hA2))
  clear ho2 hA2 hb5 H4 HE2
  go_wp2_with fail
  refine (same_any a2 a3 c2 c3 A B _ H5.out.1.2.1 H5.out.1.2.2.1).mono ?_
  rintro e W6 ⟨rfl, hb6⟩
  have H6 := Lib.hid (show TwoAt W b1 d1 X b2 d2 Y W6 from ⟨H5.out.1.1.below hb6, H5.out.2.1.below hb6, H5.out.2.2.below hb6, below_step H5.out.1.2.2.2 hb6⟩)
  clear hb6 H5
  have hz1 : ((h.size : Int) != 32) = false := by rw [hs1]; rfl
  by_cases hAB : A = B
  · have hd : decide (A = B) = true := decide_eq_true hAB
    have he : (h.toList == k.toList) = true := by rw [HC.out.2.1 hAB]; simp
    have he' : h.toList = k.toList := by rw [HC.out.2.1 hAB]
    clear hAB
    go_wp2_with fail
    go_ret
    exact ⟨rfl, H6.out.2.2.2⟩
  · have hd : decide (A = B) = false := decide_eq_false hAB
    by_cases hhk : h = k
    · have hcl := HC.out.1 hAB hhk
      have he : (h.toList == k.toList) = true := by rw [hhk]; simp
      have he' : h.toList = k.toList := by rw [hhk]
      clear hAB hhk
      have HZSX := Lib.hid HC.out.2.2.2.2.1
      have HZSY := Lib.hid HC.out.2.2.2.2.2
      have hlx := HC.out.2.2.1
      have hly := HC.out.2.2.2.1
      rcases Nat.lt_trichotomy X.length Y.length with hlt | heq | hgt
      · have hll : X.length < Y.length := by omega
        obtain ⟨bp, bo, rfl, lb, lc⟩ := H6.out.2.2.1.2.2 X.length hll
        have hzs : (Y[X.length]).size ≤ 1000 := HZSY.out _ (List.getElem_mem hll)
        have hcc : Clash Sha.shaS X Y ∨ ((Sha.shaS (Y[X.length])).toList == zeros.toList) = true := by
          rcases hcl with h1 | ⟨h1, z, h2, h3⟩ | ⟨h1, z, h2, h3⟩
          · exact .inl h1
          · first | (exfalso; omega) | (refine .inr ?_; rw [← HC.out.2.2.1] at h2; have e := (List.getElem?_eq_some_iff.1 h2).2; rw [e, h3]; simp)
          · first | (exfalso; omega) | (refine .inr ?_; rw [← HC.out.2.2.2.1] at h2; have e := (List.getElem?_eq_some_iff.1 h2).2; rw [e, h3]; simp)
        generalize Y[X.length] = z at *
        have hCz : ∀ V, Below W6.heap.size W6 V → V.cell? ⟨bp, bo + X.length, none⟩ = some (.string z) := fun V hb => (hb.cell (p := ⟨bp, bo + X.length, none⟩) lb).trans lc
        have hSz : ∀ V, Below W6.heap.size W6 V → Calls Tryd.prog 12 #[.string z] V fun e w' => e = .returned (.string (Sha.shaS z)) ∧ Below V.heap.size V w' := fun V hb => sum_any z V (H6.out.1.below hb) (by omega)
        have hne1 : ((X.length : Int) != (Y.length : Int)) = true := bne_iff_ne.2 (by omega)
        have hgt : decide ((X.length : Int) < (Y.length : Int)) = true := by simp; omega
        have hmn : min (X.length : Int) (Y.length : Int) = (X.length : Int) := by omega
        have hmn2 : (if (Y.length : Int) < (X.length : Int) then (Y.length : Int) else (X.length : Int)) = (X.length : Int) := by split <;> omega
        have hix : (X.length : Int) < (Y.length : Int) := by omega
        have HIDX := Lib.hid hcc
        have HCZ := Lib.hid hCz
        have HSZ := Lib.hid hSz
        have hcz0 := hCz W6.drew (Below.refl _ _).drew
        have hcz1 := hCz (W6.drew.alloc zeroRow) ((Below.refl _ _).drew.alloc (Nat.le_refl _) _)
        have hbd0 : Below W6.heap.size W6 W6.drew := (Below.refl _ _).drew
        have hbd1 : Below W6.heap.size W6 (W6.drew.alloc zeroRow) := (Below.refl _ _).drew.alloc (Nat.le_refl _) _
        have hmk := make_zeros
        have htz := text_zeros (W6.drew.alloc zeroRow) W6.heap.size (heap_alloc_new W6.drew _)
        have hne3 : ¬ X.length = Y.length := by omega
        clear hcc hCz hSz hcl lb lc hll hlx hly
        generalize Sha.shaS z = sz at *
        rcases HIDX.out with hC | hz
        · have CA := Lib.hid (fun V (hb : Below W6.heap.size W6 V) => collide_any dig X Y _ _ d1 d2 V (H6.out.1.below hb) (H6.out.2.1.below hb) (H6.out.2.2.1.below hb) HZSX.out HZSY.out hC)
          clear hC hmk htz hcz0 hcz1 hbd1 HIDX
          cases hzz : (sz.toList == zeros.toList) with
          | true =>
            go_wp2_with fail
            refine (wpIn_wide (n := 6)).1 ?_
            refine wpIn_region_any (by kernel_rfl) ?_
            change wpAnyIn _ _ _ _ _ _ _ _ _ W6.drew
            refine wpAnyIn_take (i := 0) (oi := { dst := some 61, op := Op.move (Operand.tmp 6), type := 26, pos := "law.go:201", after := #[], guard := none }) (v := ?va_0) rfl rfl (by kernel_rfl) (by kernel_rfl) (by kernel_rfl) (fun _ _ _ h => h) ⟨Or.inl ⟨by rfl, ?hya_0⟩, fun _ => rfl⟩ ?resta_0
            case hya_0 => intro w; go_simp; try with_reducible rfl
            simp only [Act.put, List.setIfInBounds_toArray, List.set_cons_zero, List.set_cons_succ]
            refine wpAnyIn_take (i := 1) (oi := { dst := some 62, op := Op.call { callee := Callee.builtin Builtin.len, args := #[Operand.tmp 61], argTypes := #[26] }, type := 3, pos := "law.go:201", after := #[{ on := 0, ground := Ground.data }], guard := none }) (v := ?va_1) rfl rfl (by kernel_rfl) (by kernel_rfl) (by kernel_rfl) (fun _ _ _ h => h) ⟨Or.inl ⟨by rfl, ?hya_1⟩, fun _ => rfl⟩ ?resta_1
            case hya_1 => intro w; go_simp; try with_reducible rfl
            simp only [Act.put, List.setIfInBounds_toArray, List.set_cons_zero, List.set_cons_succ]
            refine wpAnyIn_take (i := 2) (oi := { dst := some 63, op := Op.move (Operand.tmp 8), type := 26, pos := "law.go:201", after := #[], guard := none }) (v := ?va_2) rfl rfl (by kernel_rfl) (by kernel_rfl) (by kernel_rfl) (fun _ _ _ h => h) ⟨Or.inl ⟨by rfl, ?hya_2⟩, fun _ => rfl⟩ ?resta_2
            case hya_2 => intro w; go_simp; try with_reducible rfl
            simp only [Act.put, List.setIfInBounds_toArray, List.set_cons_zero, List.set_cons_succ]
            refine wpAnyIn_take (i := 3) (oi := { dst := some 64, op := Op.call { callee := Callee.builtin Builtin.len, args := #[Operand.tmp 63], argTypes := #[26] }, type := 3, pos := "law.go:201", after := #[{ on := 2, ground := Ground.data }], guard := none }) (v := ?va_3) rfl rfl (by kernel_rfl) (by kernel_rfl) (by kernel_rfl) (fun _ _ _ h => h) ⟨Or.inl ⟨by rfl, ?hya_3⟩, fun _ => rfl⟩ ?resta_3
            case hya_3 => intro w; go_simp; try with_reducible rfl
            simp only [Act.put, List.setIfInBounds_toArray, List.set_cons_zero, List.set_cons_succ]
            refine wpAnyIn_take (i := 4) (oi := { dst := some 65, op := Op.binOp BinOp.neq 3 (Operand.tmp 62) (Operand.tmp 64) 3, type := 4, pos := "law.go:201", after := #[{ on := 1, ground := Ground.data }, { on := 3, ground := Ground.data }], guard := none }) (v := ?va_4) rfl rfl (by kernel_rfl) (by kernel_rfl) (by kernel_rfl) (fun _ _ _ h => h) ⟨Or.inl ⟨by rfl, ?hya_4⟩, fun _ => rfl⟩ ?resta_4
            case hya_4 => intro w; go_simp; try with_reducible rfl
            simp only [Act.put, List.setIfInBounds_toArray, List.set_cons_zero, List.set_cons_succ]
            refine wpAnyIn_take (i := 5) (oi := { dst := some 66, op := Op.move (Operand.tmp 65), type := 4, pos := "law.go:201", after := #[{ on := 4, ground := Ground.data }], guard := none }) (v := ?va_5) rfl rfl (by kernel_rfl) (by kernel_rfl) (by kernel_rfl) (fun _ _ _ h => h) ⟨Or.inl ⟨by rfl, ?hya_5⟩, fun _ => rfl⟩ ?resta_5
            case hya_5 => intro w; go_simp; try with_reducible rfl
            simp only [Act.put, List.setIfInBounds_toArray, List.set_cons_zero, List.set_cons_succ]
            refine wpAnyIn_take (i := 6) (oi := { dst := some 67, op := Op.move (Operand.tmp 11), type := 26, pos := "law.go:201", after := #[{ on := 5, ground := Ground.guard }], guard := some (5, true) }) (v := ?va_6) rfl rfl (by kernel_rfl) (by kernel_rfl) (by kernel_rfl) (fun _ _ _ h => h) ⟨Or.inl ⟨by rfl, ?hya_6⟩, fun _ => rfl⟩ ?resta_6
            case hya_6 => intro w; go_simp; try with_reducible rfl
            simp only [Act.put, List.setIfInBounds_toArray, List.set_cons_zero, List.set_cons_succ]
            refine wpAnyIn_take (i := 7) (oi := { dst := some 68, op := Op.move (Operand.tmp 6), type := 26, pos := "law.go:201", after := #[{ on := 5, ground := Ground.guard }], guard := some (5, true) }) (v := ?va_7) rfl rfl (by kernel_rfl) (by kernel_rfl) (by kernel_rfl) (fun _ _ _ h => h) ⟨Or.inl ⟨by rfl, ?hya_7⟩, fun _ => rfl⟩ ?resta_7
            case hya_7 => intro w; go_simp; try with_reducible rfl
            simp only [Act.put, List.setIfInBounds_toArray, List.set_cons_zero, List.set_cons_succ]
            refine wpAnyIn_take (i := 8) (oi := { dst := some 69, op := Op.call { callee := Callee.builtin Builtin.len, args := #[Operand.tmp 68], argTypes := #[26] }, type := 3, pos := "law.go:201", after := #[{ on := 7, ground := Ground.data }, { on := 5, ground := Ground.guard }], guard := some (5, true) }) (v := ?va_8) rfl rfl (by kernel_rfl) (by kernel_rfl) (by kernel_rfl) (fun _ _ _ h => h) ⟨Or.inl ⟨by rfl, ?hya_8⟩, fun _ => rfl⟩ ?resta_8
            case hya_8 => intro w; go_simp; try with_reducible rfl
            simp only [Act.put, List.setIfInBounds_toArray, List.set_cons_zero, List.set_cons_succ]
            refine wpAnyIn_take (i := 9) (oi := { dst := some 70, op := Op.move (Operand.tmp 8), type := 26, pos := "law.go:201", after := #[{ on := 5, ground := Ground.guard }], guard := some (5, true) }) (v := ?va_9) rfl rfl (by kernel_rfl) (by kernel_rfl) (by kernel_rfl) (fun _ _ _ h => h) ⟨Or.inl ⟨by rfl, ?hya_9⟩, fun _ => rfl⟩ ?resta_9
            case hya_9 => intro w; go_simp; try with_reducible rfl
            simp only [Act.put, List.setIfInBounds_toArray, List.set_cons_zero, List.set_cons_succ]
            refine wpAnyIn_take (i := 10) (oi := { dst := some 71, op := Op.call { callee := Callee.builtin Builtin.len, args := #[Operand.tmp 70], argTypes := #[26] }, type := 3, pos := "law.go:201", after := #[{ on := 9, ground := Ground.data }, { on := 5, ground := Ground.guard }], guard := some (5, true) }) (v := ?va_10) rfl rfl (by kernel_rfl) (by kernel_rfl) (by kernel_rfl) (fun _ _ _ h => h) ⟨Or.inl ⟨by rfl, ?hya_10⟩, fun _ => rfl⟩ ?resta_10
            case hya_10 => intro w; go_simp; try with_reducible rfl
            simp only [Act.put, List.setIfInBounds_toArray, List.set_cons_zero, List.set_cons_succ]
            refine wpAnyIn_take (i := 11) (oi := { dst := some 72, op := Op.call { callee := Callee.builtin Builtin.min, args := #[Operand.tmp 69, Operand.tmp 71], argTypes := #[3, 3] }, type := 3, pos := "law.go:201", after := #[{ on := 8, ground := Ground.data }, { on := 10, ground := Ground.data }, { on := 5, ground := Ground.guard }], guard := some (5, true) }) (v := ?va_11) rfl rfl (by kernel_rfl) (by kernel_rfl) (by kernel_rfl) (fun _ _ _ h => h) ⟨Or.inl ⟨by rfl, ?hya_11⟩, fun _ => rfl⟩ ?resta_11
            case hya_11 => intro w; go_simp; try with_reducible rfl
            simp only [Act.put, List.setIfInBounds_toArray, List.set_cons_zero, List.set_cons_succ]
            refine wpAnyIn_take (i := 12) (oi := { dst := some 73, op := Op.indexAddr 26 (Operand.tmp 67) (Operand.tmp 72), type := 0, pos := "law.go:201", after := #[{ on := 6, ground := Ground.data }, { on := 11, ground := Ground.data }, { on := 5, ground := Ground.guard }], guard := some (5, true) }) (v := ?va_12) rfl rfl (by kernel_rfl) (by kernel_rfl) (by kernel_rfl) (fun _ _ _ h => h) ⟨Or.inl ⟨by rfl, ?hya_12⟩, fun _ => rfl⟩ ?resta_12
            case hya_12 => intro w; go_simp; try with_reducible rfl
            simp only [Act.put, List.setIfInBounds_toArray, List.set_cons_zero, List.set_cons_succ]
            refine wpAnyIn_ready (rs := [13, 15]) (by kernel_rfl) (by simp) ?_
            refine BigFrame.allReadyIn_want rfl rfl (fun K hK => ?_) (BigFrame.allReadyIn_want rfl rfl (fun K hK => ?_) (AllReadyIn.nil))
            · have q0 := HCZ.out _ hbd0
              go_simp
              refine hK _ _ ?_
              clear hK K q0
              refine wpAnyIn_ready (rs := [14, 15]) (by kernel_rfl) (by simp) ?_
              refine BigFrame.allReadyIn_want rfl rfl (fun K hK => ?_) (BigFrame.allReadyIn_want rfl rfl (fun K hK => ?_) (AllReadyIn.nil))
              · go_simp
                refine ⟨trivial, (callsIn_wide.2 (HSZ.out _ hbd0)).mono ?_⟩
                rintro e V ⟨rfl, hV⟩
                have hbV := below_step hbd0 hV
                refine hK _ _ ?_
                clear hK K
                refine wpAnyIn_ready (rs := [15]) (by kernel_rfl) (by simp) ?_
                refine BigFrame.allReadyIn_want rfl rfl (fun K hK => ?_) (AllReadyIn.nil)
                have q0 := make_zeros V
                go_simp
                refine hK _ _ ?_
                clear hK K q0
                have hbM : Below W6.heap.size W6 (V.alloc zeroRow) := hbV.alloc hbV.size _
                have hzM : (V.alloc zeroRow).heap[V.heap.size]? = some zeroRow := heap_alloc_new V _
                refine wpAnyIn_ready (rs := [16]) (by kernel_rfl) (by simp) ?_
                refine BigFrame.allReadyIn_want rfl rfl (fun K hK => ?_) (AllReadyIn.nil)
                have q0 := text_zeros (V.alloc zeroRow) V.heap.size hzM
                go_simp
                refine hK _ _ ?_
                clear hK K q0
                refine wpAnyIn_ready (rs := [17]) (by kernel_rfl) (by simp) ?_
                refine BigFrame.allReadyIn_want rfl rfl (fun K hK => ?_) (AllReadyIn.nil)
                go_simp
                refine hK _ _ ?_
                clear hK K
                refine wpAnyIn_ready (rs := [18]) (by kernel_rfl) (by simp) ?_
                refine BigFrame.allReadyIn_want rfl rfl (fun K hK => ?_) (AllReadyIn.nil)
                go_simp
                refine hK _ _ ?_
                clear hK K
                refine wpAnyIn_ready (rs := [19]) (by kernel_rfl) (by simp) ?_
                refine BigFrame.allReadyIn_want rfl rfl (fun K hK => ?_) (AllReadyIn.nil)
                go_simp
                refine hK _ _ ?_
                clear hK K
                refine wpAnyIn_done (by kernel_rfl) ?_ _
                go_wp2_with (go_at_call 32; refine (CA.out _ hbM).mono ?_; rintro e w9 ⟨rfl, hb9⟩)
                have HB9 := Lib.hid (H6.out.step (below_step hbM hb9))
                clear hb9
                go_wp2_with fail
                go_ret
                exact ⟨rfl, HB9.out.2.2.2⟩
              · have q0 := make_zeros W6.drew
                go_simp
                refine hK _ _ ?_
                clear hK K q0
                have hbM : Below W6.heap.size W6 ((W6.alloc zeroRow).drew) := ((Below.refl _ _).alloc (Nat.le_refl _) _).drew
                have hzM : ((W6.alloc zeroRow).drew).heap[W6.heap.size]? = some zeroRow := heap_alloc_new W6 _
                refine wpAnyIn_ready (rs := [14, 16]) (by kernel_rfl) (by simp) ?_
                refine BigFrame.allReadyIn_want rfl rfl (fun K hK => ?_) (BigFrame.allReadyIn_want rfl rfl (fun K hK => ?_) (AllReadyIn.nil))
                · go_simp
                  refine ⟨trivial, (callsIn_wide.2 (HSZ.out _ hbM)).mono ?_⟩
                  rintro e V ⟨rfl, hV⟩
                  have hbV := below_step hbM hV
                  refine hK _ _ ?_
                  clear hK K
                  have hzV := (hV.block _ (Array.getElem?_eq_some_iff.1 hzM).1).trans hzM
                  refine wpAnyIn_ready (rs := [16]) (by kernel_rfl) (by simp) ?_
                  refine BigFrame.allReadyIn_want rfl rfl (fun K hK => ?_) (AllReadyIn.nil)
                  have q0 := text_zeros V W6.heap.size hzV
                  go_simp
                  refine hK _ _ ?_
                  clear hK K q0
                  refine wpAnyIn_ready (rs := [17]) (by kernel_rfl) (by simp) ?_
                  refine BigFrame.allReadyIn_want rfl rfl (fun K hK => ?_) (AllReadyIn.nil)
                  go_simp
                  refine hK _ _ ?_
                  clear hK K
                  refine wpAnyIn_ready (rs := [18]) (by kernel_rfl) (by simp) ?_
                  refine BigFrame.allReadyIn_want rfl rfl (fun K hK => ?_) (AllReadyIn.nil)
                  go_simp
                  refine hK _ _ ?_
                  clear hK K
                  refine wpAnyIn_ready (rs := [19]) (by kernel_rfl) (by simp) ?_
                  refine BigFrame.allReadyIn_want rfl rfl (fun K hK => ?_) (AllReadyIn.nil)
                  go_simp
                  refine hK _ _ ?_
                  clear hK K
                  refine wpAnyIn_done (by kernel_rfl) ?_ _
                  go_wp2_with (go_at_call 32; refine (CA.out _ hbV).mono ?_; rintro e w9 ⟨rfl, hb9⟩)
                  have HB9 := Lib.hid (H6.out.step (below_step hbV hb9))
                  clear hb9
                  go_wp2_with fail
                  go_ret
                  exact ⟨rfl, HB9.out.2.2.2⟩
                · have q0 := text_zeros ((W6.alloc zeroRow).drew) W6.heap.size hzM
                  go_simp
                  refine hK _ _ ?_
                  clear hK K q0
                  refine wpAnyIn_ready (rs := [14]) (by kernel_rfl) (by simp) ?_
                  refine BigFrame.allReadyIn_want rfl rfl (fun K hK => ?_) (AllReadyIn.nil)
                  go_simp
                  refine ⟨trivial, (callsIn_wide.2 (HSZ.out _ hbM)).mono ?_⟩
                  rintro e V ⟨rfl, hV⟩
                  have hbV := below_step hbM hV
                  refine hK _ _ ?_
                  clear hK K
                  have hzV := (hV.block _ (Array.getElem?_eq_some_iff.1 hzM).1).trans hzM
                  refine wpAnyIn_ready (rs := [17]) (by kernel_rfl) (by simp) ?_
                  refine BigFrame.allReadyIn_want rfl rfl (fun K hK => ?_) (AllReadyIn.nil)
                  go_simp
                  refine hK _ _ ?_
                  clear hK K
                  refine wpAnyIn_ready (rs := [18]) (by kernel_rfl) (by simp) ?_
                  refine BigFrame.allReadyIn_want rfl rfl (fun K hK => ?_) (AllReadyIn.nil)
                  go_simp
                  refine hK _ _ ?_
                  clear hK K
                  refine wpAnyIn_ready (rs := [19]) (by kernel_rfl) (by simp) ?_
                  refine BigFrame.allReadyIn_want rfl rfl (fun K hK => ?_) (AllReadyIn.nil)
                  go_simp
                  refine hK _ _ ?_
                  clear hK K
                  refine wpAnyIn_done (by kernel_rfl) ?_ _
                  go_wp2_with (go_at_call 32; refine (CA.out _ hbV).mono ?_; rintro e w9 ⟨rfl, hb9⟩)
                  have HB9 := Lib.hid (H6.out.step (below_step hbV hb9))
                  clear hb9
                  go_wp2_with fail
                  go_ret
                  exact ⟨rfl, HB9.out.2.2.2⟩
            · have q0 := make_zeros W6.drew
              go_simp
              refine hK _ _ ?_
              clear hK K q0
              have hbM : Below W6.heap.size W6 ((W6.alloc zeroRow).drew) := ((Below.refl _ _).alloc (Nat.le_refl _) _).drew
              have hzM : ((W6.alloc zeroRow).drew).heap[W6.heap.size]? = some zeroRow := heap_alloc_new W6 _
              refine wpAnyIn_ready (rs := [13, 16]) (by kernel_rfl) (by simp) ?_
              refine BigFrame.allReadyIn_want rfl rfl (fun K hK => ?_) (BigFrame.allReadyIn_want rfl rfl (fun K hK => ?_) (AllReadyIn.nil))
              · have q0 := HCZ.out _ hbM
                go_simp
                refine hK _ _ ?_
                clear hK K q0
                refine wpAnyIn_ready (rs := [14, 16]) (by kernel_rfl) (by simp) ?_
                refine BigFrame.allReadyIn_want rfl rfl (fun K hK => ?_) (BigFrame.allReadyIn_want rfl rfl (fun K hK => ?_) (AllReadyIn.nil))
                · go_simp
                  refine ⟨trivial, (callsIn_wide.2 (HSZ.out _ hbM)).mono ?_⟩
                  rintro e V ⟨rfl, hV⟩
                  have hbV := below_step hbM hV
                  refine hK _ _ ?_
                  clear hK K
                  have hzV := (hV.block _ (Array.getElem?_eq_some_iff.1 hzM).1).trans hzM
                  refine wpAnyIn_ready (rs := [16]) (by kernel_rfl) (by simp) ?_
                  refine BigFrame.allReadyIn_want rfl rfl (fun K hK => ?_) (AllReadyIn.nil)
                  have q0 := text_zeros V W6.heap.size hzV
                  go_simp
                  refine hK _ _ ?_
                  clear hK K q0
                  refine wpAnyIn_ready (rs := [17]) (by kernel_rfl) (by simp) ?_
                  refine BigFrame.allReadyIn_want rfl rfl (fun K hK => ?_) (AllReadyIn.nil)
                  go_simp
                  refine hK _ _ ?_
                  clear hK K
                  refine wpAnyIn_ready (rs := [18]) (by kernel_rfl) (by simp) ?_
                  refine BigFrame.allReadyIn_want rfl rfl (fun K hK => ?_) (AllReadyIn.nil)
                  go_simp
                  refine hK _ _ ?_
                  clear hK K
                  refine wpAnyIn_ready (rs := [19]) (by kernel_rfl) (by simp) ?_
                  refine BigFrame.allReadyIn_want rfl rfl (fun K hK => ?_) (AllReadyIn.nil)
                  go_simp
                  refine hK _ _ ?_
                  clear hK K
                  refine wpAnyIn_done (by kernel_rfl) ?_ _
                  go_wp2_with (go_at_call 32; refine (CA.out _ hbV).mono ?_; rintro e w9 ⟨rfl, hb9⟩)
                  have HB9 := Lib.hid (H6.out.step (below_step hbV hb9))
                  clear hb9
                  go_wp2_with fail
                  go_ret
                  exact ⟨rfl, HB9.out.2.2.2⟩
                · have q0 := text_zeros ((W6.alloc zeroRow).drew) W6.heap.size hzM
                  go_simp
                  refine hK _ _ ?_
                  clear hK K q0
                  refine wpAnyIn_ready (rs := [14]) (by kernel_rfl) (by simp) ?_
                  refine BigFrame.allReadyIn_want rfl rfl (fun K hK => ?_) (AllReadyIn.nil)
                  go_simp
                  refine ⟨trivial, (callsIn_wide.2 (HSZ.out _ hbM)).mono ?_⟩
                  rintro e V ⟨rfl, hV⟩
                  have hbV := below_step hbM hV
                  refine hK _ _ ?_
                  clear hK K
                  have hzV := (hV.block _ (Array.getElem?_eq_some_iff.1 hzM).1).trans hzM
                  refine wpAnyIn_ready (rs := [17]) (by kernel_rfl) (by simp) ?_
                  refine BigFrame.allReadyIn_want rfl rfl (fun K hK => ?_) (AllReadyIn.nil)
                  go_simp
                  refine hK _ _ ?_
                  clear hK K
                  refine wpAnyIn_ready (rs := [18]) (by kernel_rfl) (by simp) ?_
                  refine BigFrame.allReadyIn_want rfl rfl (fun K hK => ?_) (AllReadyIn.nil)
                  go_simp
                  refine hK _ _ ?_
                  clear hK K
                  refine wpAnyIn_ready (rs := [19]) (by kernel_rfl) (by simp) ?_
                  refine BigFrame.allReadyIn_want rfl rfl (fun K hK => ?_) (AllReadyIn.nil)
                  go_simp
                  refine hK _ _ ?_
                  clear hK K
                  refine wpAnyIn_done (by kernel_rfl) ?_ _
                  go_wp2_with (go_at_call 32; refine (CA.out _ hbV).mono ?_; rintro e w9 ⟨rfl, hb9⟩)
                  have HB9 := Lib.hid (H6.out.step (below_step hbV hb9))
                  clear hb9
                  go_wp2_with fail
                  go_ret
                  exact ⟨rfl, HB9.out.2.2.2⟩
              · have q0 := text_zeros ((W6.alloc zeroRow).drew) W6.heap.size hzM
                go_simp
                refine hK _ _ ?_
                clear hK K q0
                refine wpAnyIn_ready (rs := [13]) (by kernel_rfl) (by simp) ?_
                refine BigFrame.allReadyIn_want rfl rfl (fun K hK => ?_) (AllReadyIn.nil)
                have q0 := HCZ.out _ hbM
                go_simp
                refine hK _ _ ?_
                clear hK K q0
                refine wpAnyIn_ready (rs := [14]) (by kernel_rfl) (by simp) ?_
                refine BigFrame.allReadyIn_want rfl rfl (fun K hK => ?_) (AllReadyIn.nil)
                go_simp
                refine ⟨trivial, (callsIn_wide.2 (HSZ.out _ hbM)).mono ?_⟩
                rintro e V ⟨rfl, hV⟩
                have hbV := below_step hbM hV
                refine hK _ _ ?_
                clear hK K
                have hzV := (hV.block _ (Array.getElem?_eq_some_iff.1 hzM).1).trans hzM
                refine wpAnyIn_ready (rs := [17]) (by kernel_rfl) (by simp) ?_
                refine BigFrame.allReadyIn_want rfl rfl (fun K hK => ?_) (AllReadyIn.nil)
                go_simp
                refine hK _ _ ?_
                clear hK K
                refine wpAnyIn_ready (rs := [18]) (by kernel_rfl) (by simp) ?_
                refine BigFrame.allReadyIn_want rfl rfl (fun K hK => ?_) (AllReadyIn.nil)
                go_simp
                refine hK _ _ ?_
                clear hK K
                refine wpAnyIn_ready (rs := [19]) (by kernel_rfl) (by simp) ?_
                refine BigFrame.allReadyIn_want rfl rfl (fun K hK => ?_) (AllReadyIn.nil)
                go_simp
                refine hK _ _ ?_
                clear hK K
                refine wpAnyIn_done (by kernel_rfl) ?_ _
                go_wp2_with (go_at_call 32; refine (CA.out _ hbV).mono ?_; rintro e w9 ⟨rfl, hb9⟩)
                have HB9 := Lib.hid (H6.out.step (below_step hbV hb9))
                clear hb9
                go_wp2_with fail
                go_ret
                exact ⟨rfl, HB9.out.2.2.2⟩
          | false =>
            go_wp2_with fail
            refine (wpIn_wide (n := 6)).1 ?_
            refine wpIn_region_any (by kernel_rfl) ?_
            change wpAnyIn _ _ _ _ _ _ _ _ _ W6.drew
            refine wpAnyIn_take (i := 0) (oi := { dst := some 61, op := Op.move (Operand.tmp 6), type := 26, pos := "law.go:201", after := #[], guard := none }) (v := ?vb_0) rfl rfl (by kernel_rfl) (by kernel_rfl) (by kernel_rfl) (fun _ _ _ h => h) ⟨Or.inl ⟨by rfl, ?hyb_0⟩, fun _ => rfl⟩ ?restb_0
            case hyb_0 => intro w; go_simp; try with_reducible rfl
            simp only [Act.put, List.setIfInBounds_toArray, List.set_cons_zero, List.set_cons_succ]
            refine wpAnyIn_take (i := 1) (oi := { dst := some 62, op := Op.call { callee := Callee.builtin Builtin.len, args := #[Operand.tmp 61], argTypes := #[26] }, type := 3, pos := "law.go:201", after := #[{ on := 0, ground := Ground.data }], guard := none }) (v := ?vb_1) rfl rfl (by kernel_rfl) (by kernel_rfl) (by kernel_rfl) (fun _ _ _ h => h) ⟨Or.inl ⟨by rfl, ?hyb_1⟩, fun _ => rfl⟩ ?restb_1
            case hyb_1 => intro w; go_simp; try with_reducible rfl
            simp only [Act.put, List.setIfInBounds_toArray, List.set_cons_zero, List.set_cons_succ]
            refine wpAnyIn_take (i := 2) (oi := { dst := some 63, op := Op.move (Operand.tmp 8), type := 26, pos := "law.go:201", after := #[], guard := none }) (v := ?vb_2) rfl rfl (by kernel_rfl) (by kernel_rfl) (by kernel_rfl) (fun _ _ _ h => h) ⟨Or.inl ⟨by rfl, ?hyb_2⟩, fun _ => rfl⟩ ?restb_2
            case hyb_2 => intro w; go_simp; try with_reducible rfl
            simp only [Act.put, List.setIfInBounds_toArray, List.set_cons_zero, List.set_cons_succ]
            refine wpAnyIn_take (i := 3) (oi := { dst := some 64, op := Op.call { callee := Callee.builtin Builtin.len, args := #[Operand.tmp 63], argTypes := #[26] }, type := 3, pos := "law.go:201", after := #[{ on := 2, ground := Ground.data }], guard := none }) (v := ?vb_3) rfl rfl (by kernel_rfl) (by kernel_rfl) (by kernel_rfl) (fun _ _ _ h => h) ⟨Or.inl ⟨by rfl, ?hyb_3⟩, fun _ => rfl⟩ ?restb_3
            case hyb_3 => intro w; go_simp; try with_reducible rfl
            simp only [Act.put, List.setIfInBounds_toArray, List.set_cons_zero, List.set_cons_succ]
            refine wpAnyIn_take (i := 4) (oi := { dst := some 65, op := Op.binOp BinOp.neq 3 (Operand.tmp 62) (Operand.tmp 64) 3, type := 4, pos := "law.go:201", after := #[{ on := 1, ground := Ground.data }, { on := 3, ground := Ground.data }], guard := none }) (v := ?vb_4) rfl rfl (by kernel_rfl) (by kernel_rfl) (by kernel_rfl) (fun _ _ _ h => h) ⟨Or.inl ⟨by rfl, ?hyb_4⟩, fun _ => rfl⟩ ?restb_4
            case hyb_4 => intro w; go_simp; try with_reducible rfl
            simp only [Act.put, List.setIfInBounds_toArray, List.set_cons_zero, List.set_cons_succ]
            refine wpAnyIn_take (i := 5) (oi := { dst := some 66, op := Op.move (Operand.tmp 65), type := 4, pos := "law.go:201", after := #[{ on := 4, ground := Ground.data }], guard := none }) (v := ?vb_5) rfl rfl (by kernel_rfl) (by kernel_rfl) (by kernel_rfl) (fun _ _ _ h => h) ⟨Or.inl ⟨by rfl, ?hyb_5⟩, fun _ => rfl⟩ ?restb_5
            case hyb_5 => intro w; go_simp; try with_reducible rfl
            simp only [Act.put, List.setIfInBounds_toArray, List.set_cons_zero, List.set_cons_succ]
            refine wpAnyIn_take (i := 6) (oi := { dst := some 67, op := Op.move (Operand.tmp 11), type := 26, pos := "law.go:201", after := #[{ on := 5, ground := Ground.guard }], guard := some (5, true) }) (v := ?vb_6) rfl rfl (by kernel_rfl) (by kernel_rfl) (by kernel_rfl) (fun _ _ _ h => h) ⟨Or.inl ⟨by rfl, ?hyb_6⟩, fun _ => rfl⟩ ?restb_6
            case hyb_6 => intro w; go_simp; try with_reducible rfl
            simp only [Act.put, List.setIfInBounds_toArray, List.set_cons_zero, List.set_cons_succ]
            refine wpAnyIn_take (i := 7) (oi := { dst := some 68, op := Op.move (Operand.tmp 6), type := 26, pos := "law.go:201", after := #[{ on := 5, ground := Ground.guard }], guard := some (5, true) }) (v := ?vb_7) rfl rfl (by kernel_rfl) (by kernel_rfl) (by kernel_rfl) (fun _ _ _ h => h) ⟨Or.inl ⟨by rfl, ?hyb_7⟩, fun _ => rfl⟩ ?restb_7
            case hyb_7 => intro w; go_simp; try with_reducible rfl
            simp only [Act.put, List.setIfInBounds_toArray, List.set_cons_zero, List.set_cons_succ]
            refine wpAnyIn_take (i := 8) (oi := { dst := some 69, op := Op.call { callee := Callee.builtin Builtin.len, args := #[Operand.tmp 68], argTypes := #[26] }, type := 3, pos := "law.go:201", after := #[{ on := 7, ground := Ground.data }, { on := 5, ground := Ground.guard }], guard := some (5, true) }) (v := ?vb_8) rfl rfl (by kernel_rfl) (by kernel_rfl) (by kernel_rfl) (fun _ _ _ h => h) ⟨Or.inl ⟨by rfl, ?hyb_8⟩, fun _ => rfl⟩ ?restb_8
            case hyb_8 => intro w; go_simp; try with_reducible rfl
            simp only [Act.put, List.setIfInBounds_toArray, List.set_cons_zero, List.set_cons_succ]
            refine wpAnyIn_take (i := 9) (oi := { dst := some 70, op := Op.move (Operand.tmp 8), type := 26, pos := "law.go:201", after := #[{ on := 5, ground := Ground.guard }], guard := some (5, true) }) (v := ?vb_9) rfl rfl (by kernel_rfl) (by kernel_rfl) (by kernel_rfl) (fun _ _ _ h => h) ⟨Or.inl ⟨by rfl, ?hyb_9⟩, fun _ => rfl⟩ ?restb_9
            case hyb_9 => intro w; go_simp; try with_reducible rfl
            simp only [Act.put, List.setIfInBounds_toArray, List.set_cons_zero, List.set_cons_succ]
            refine wpAnyIn_take (i := 10) (oi := { dst := some 71, op := Op.call { callee := Callee.builtin Builtin.len, args := #[Operand.tmp 70], argTypes := #[26] }, type := 3, pos := "law.go:201", after := #[{ on := 9, ground := Ground.data }, { on := 5, ground := Ground.guard }], guard := some (5, true) }) (v := ?vb_10) rfl rfl (by kernel_rfl) (by kernel_rfl) (by kernel_rfl) (fun _ _ _ h => h) ⟨Or.inl ⟨by rfl, ?hyb_10⟩, fun _ => rfl⟩ ?restb_10
            case hyb_10 => intro w; go_simp; try with_reducible rfl
            simp only [Act.put, List.setIfInBounds_toArray, List.set_cons_zero, List.set_cons_succ]
            refine wpAnyIn_take (i := 11) (oi := { dst := some 72, op := Op.call { callee := Callee.builtin Builtin.min, args := #[Operand.tmp 69, Operand.tmp 71], argTypes := #[3, 3] }, type := 3, pos := "law.go:201", after := #[{ on := 8, ground := Ground.data }, { on := 10, ground := Ground.data }, { on := 5, ground := Ground.guard }], guard := some (5, true) }) (v := ?vb_11) rfl rfl (by kernel_rfl) (by kernel_rfl) (by kernel_rfl) (fun _ _ _ h => h) ⟨Or.inl ⟨by rfl, ?hyb_11⟩, fun _ => rfl⟩ ?restb_11
            case hyb_11 => intro w; go_simp; try with_reducible rfl
            simp only [Act.put, List.setIfInBounds_toArray, List.set_cons_zero, List.set_cons_succ]
            refine wpAnyIn_take (i := 12) (oi := { dst := some 73, op := Op.indexAddr 26 (Operand.tmp 67) (Operand.tmp 72), type := 0, pos := "law.go:201", after := #[{ on := 6, ground := Ground.data }, { on := 11, ground := Ground.data }, { on := 5, ground := Ground.guard }], guard := some (5, true) }) (v := ?vb_12) rfl rfl (by kernel_rfl) (by kernel_rfl) (by kernel_rfl) (fun _ _ _ h => h) ⟨Or.inl ⟨by rfl, ?hyb_12⟩, fun _ => rfl⟩ ?restb_12
            case hyb_12 => intro w; go_simp; try with_reducible rfl
            simp only [Act.put, List.setIfInBounds_toArray, List.set_cons_zero, List.set_cons_succ]
            refine wpAnyIn_ready (rs := [13, 15]) (by kernel_rfl) (by simp) ?_
            refine BigFrame.allReadyIn_want rfl rfl (fun K hK => ?_) (BigFrame.allReadyIn_want rfl rfl (fun K hK => ?_) (AllReadyIn.nil))
            · have q0 := HCZ.out _ hbd0
              go_simp
              refine hK _ _ ?_
              clear hK K q0
              refine wpAnyIn_ready (rs := [14, 15]) (by kernel_rfl) (by simp) ?_
              refine BigFrame.allReadyIn_want rfl rfl (fun K hK => ?_) (BigFrame.allReadyIn_want rfl rfl (fun K hK => ?_) (AllReadyIn.nil))
              · go_simp
                refine ⟨trivial, (callsIn_wide.2 (HSZ.out _ hbd0)).mono ?_⟩
                rintro e V ⟨rfl, hV⟩
                have hbV := below_step hbd0 hV
                refine hK _ _ ?_
                clear hK K
                refine wpAnyIn_ready (rs := [15]) (by kernel_rfl) (by simp) ?_
                refine BigFrame.allReadyIn_want rfl rfl (fun K hK => ?_) (AllReadyIn.nil)
                have q0 := make_zeros V
                go_simp
                refine hK _ _ ?_
                clear hK K q0
                have hbM : Below W6.heap.size W6 (V.alloc zeroRow) := hbV.alloc hbV.size _
                have hzM : (V.alloc zeroRow).heap[V.heap.size]? = some zeroRow := heap_alloc_new V _
                refine wpAnyIn_ready (rs := [16]) (by kernel_rfl) (by simp) ?_
                refine BigFrame.allReadyIn_want rfl rfl (fun K hK => ?_) (AllReadyIn.nil)
                have q0 := text_zeros (V.alloc zeroRow) V.heap.size hzM
                go_simp
                refine hK _ _ ?_
                clear hK K q0
                refine wpAnyIn_ready (rs := [17]) (by kernel_rfl) (by simp) ?_
                refine BigFrame.allReadyIn_want rfl rfl (fun K hK => ?_) (AllReadyIn.nil)
                go_simp
                refine hK _ _ ?_
                clear hK K
                refine wpAnyIn_ready (rs := [18]) (by kernel_rfl) (by simp) ?_
                refine BigFrame.allReadyIn_want rfl rfl (fun K hK => ?_) (AllReadyIn.nil)
                go_simp
                refine hK _ _ ?_
                clear hK K
                refine wpAnyIn_ready (rs := [19]) (by kernel_rfl) (by simp) ?_
                refine BigFrame.allReadyIn_want rfl rfl (fun K hK => ?_) (AllReadyIn.nil)
                go_simp
                refine hK _ _ ?_
                clear hK K
                refine wpAnyIn_done (by kernel_rfl) ?_ _
                go_wp2_with (go_at_call 32; refine (CA.out _ hbM).mono ?_; rintro e w9 ⟨rfl, hb9⟩)
                have HB9 := Lib.hid (H6.out.step (below_step hbM hb9))
                clear hb9
                go_wp2_with fail
                go_ret
                exact ⟨rfl, HB9.out.2.2.2⟩
              · have q0 := make_zeros W6.drew
                go_simp
                refine hK _ _ ?_
                clear hK K q0
                have hbM : Below W6.heap.size W6 ((W6.alloc zeroRow).drew) := ((Below.refl _ _).alloc (Nat.le_refl _) _).drew
                have hzM : ((W6.alloc zeroRow).drew).heap[W6.heap.size]? = some zeroRow := heap_alloc_new W6 _
                refine wpAnyIn_ready (rs := [14, 16]) (by kernel_rfl) (by simp) ?_
                refine BigFrame.allReadyIn_want rfl rfl (fun K hK => ?_) (BigFrame.allReadyIn_want rfl rfl (fun K hK => ?_) (AllReadyIn.nil))
                · go_simp
                  refine ⟨trivial, (callsIn_wide.2 (HSZ.out _ hbM)).mono ?_⟩
                  rintro e V ⟨rfl, hV⟩
                  have hbV := below_step hbM hV
                  refine hK _ _ ?_
                  clear hK K
                  have hzV := (hV.block _ (Array.getElem?_eq_some_iff.1 hzM).1).trans hzM
                  refine wpAnyIn_ready (rs := [16]) (by kernel_rfl) (by simp) ?_
                  refine BigFrame.allReadyIn_want rfl rfl (fun K hK => ?_) (AllReadyIn.nil)
                  have q0 := text_zeros V W6.heap.size hzV
                  go_simp
                  refine hK _ _ ?_
                  clear hK K q0
                  refine wpAnyIn_ready (rs := [17]) (by kernel_rfl) (by simp) ?_
                  refine BigFrame.allReadyIn_want rfl rfl (fun K hK => ?_) (AllReadyIn.nil)
                  go_simp
                  refine hK _ _ ?_
                  clear hK K
                  refine wpAnyIn_ready (rs := [18]) (by kernel_rfl) (by simp) ?_
                  refine BigFrame.allReadyIn_want rfl rfl (fun K hK => ?_) (AllReadyIn.nil)
                  go_simp
                  refine hK _ _ ?_
                  clear hK K
                  refine wpAnyIn_ready (rs := [19]) (by kernel_rfl) (by simp) ?_
                  refine BigFrame.allReadyIn_want rfl rfl (fun K hK => ?_) (AllReadyIn.nil)
                  go_simp
                  refine hK _ _ ?_
                  clear hK K
                  refine wpAnyIn_done (by kernel_rfl) ?_ _
                  go_wp2_with (go_at_call 32; refine (CA.out _ hbV).mono ?_; rintro e w9 ⟨rfl, hb9⟩)
                  have HB9 := Lib.hid (H6.out.step (below_step hbV hb9))
                  clear hb9
                  go_wp2_with fail
                  go_ret
                  exact ⟨rfl, HB9.out.2.2.2⟩
                · have q0 := text_zeros ((W6.alloc zeroRow).drew) W6.heap.size hzM
                  go_simp
                  refine hK _ _ ?_
                  clear hK K q0
                  refine wpAnyIn_ready (rs := [14]) (by kernel_rfl) (by simp) ?_
                  refine BigFrame.allReadyIn_want rfl rfl (fun K hK => ?_) (AllReadyIn.nil)
                  go_simp
                  refine ⟨trivial, (callsIn_wide.2 (HSZ.out _ hbM)).mono ?_⟩
                  rintro e V ⟨rfl, hV⟩
                  have hbV := below_step hbM hV
                  refine hK _ _ ?_
                  clear hK K
                  have hzV := (hV.block _ (Array.getElem?_eq_some_iff.1 hzM).1).trans hzM
                  refine wpAnyIn_ready (rs := [17]) (by kernel_rfl) (by simp) ?_
                  refine BigFrame.allReadyIn_want rfl rfl (fun K hK => ?_) (AllReadyIn.nil)
                  go_simp
                  refine hK _ _ ?_
                  clear hK K
                  refine wpAnyIn_ready (rs := [18]) (by kernel_rfl) (by simp) ?_
                  refine BigFrame.allReadyIn_want rfl rfl (fun K hK => ?_) (AllReadyIn.nil)
                  go_simp
                  refine hK _ _ ?_
                  clear hK K
                  refine wpAnyIn_ready (rs := [19]) (by kernel_rfl) (by simp) ?_
                  refine BigFrame.allReadyIn_want rfl rfl (fun K hK => ?_) (AllReadyIn.nil)
                  go_simp
                  refine hK _ _ ?_
                  clear hK K
                  refine wpAnyIn_done (by kernel_rfl) ?_ _
                  go_wp2_with (go_at_call 32; refine (CA.out _ hbV).mono ?_; rintro e w9 ⟨rfl, hb9⟩)
                  have HB9 := Lib.hid (H6.out.step (below_step hbV hb9))
                  clear hb9
                  go_wp2_with fail
                  go_ret
                  exact ⟨rfl, HB9.out.2.2.2⟩
            · have q0 := make_zeros W6.drew
              go_simp
              refine hK _ _ ?_
              clear hK K q0
              have hbM : Below W6.heap.size W6 ((W6.alloc zeroRow).drew) := ((Below.refl _ _).alloc (Nat.le_refl _) _).drew
              have hzM : ((W6.alloc zeroRow).drew).heap[W6.heap.size]? = some zeroRow := heap_alloc_new W6 _
              refine wpAnyIn_ready (rs := [13, 16]) (by kernel_rfl) (by simp) ?_
              refine BigFrame.allReadyIn_want rfl rfl (fun K hK => ?_) (BigFrame.allReadyIn_want rfl rfl (fun K hK => ?_) (AllReadyIn.nil))
              · have q0 := HCZ.out _ hbM
                go_simp
                refine hK _ _ ?_
                clear hK K q0
                refine wpAnyIn_ready (rs := [14, 16]) (by kernel_rfl) (by simp) ?_
                refine BigFrame.allReadyIn_want rfl rfl (fun K hK => ?_) (BigFrame.allReadyIn_want rfl rfl (fun K hK => ?_) (AllReadyIn.nil))
                · go_simp
                  refine ⟨trivial, (callsIn_wide.2 (HSZ.out _ hbM)).mono ?_⟩
                  rintro e V ⟨rfl, hV⟩
                  have hbV := below_step hbM hV
                  refine hK _ _ ?_
                  clear hK K
                  have hzV := (hV.block _ (Array.getElem?_eq_some_iff.1 hzM).1).trans hzM
                  refine wpAnyIn_ready (rs := [16]) (by kernel_rfl) (by simp) ?_
                  refine BigFrame.allReadyIn_want rfl rfl (fun K hK => ?_) (AllReadyIn.nil)
                  have q0 := text_zeros V W6.heap.size hzV
                  go_simp
                  refine hK _ _ ?_
                  clear hK K q0
                  refine wpAnyIn_ready (rs := [17]) (by kernel_rfl) (by simp) ?_
                  refine BigFrame.allReadyIn_want rfl rfl (fun K hK => ?_) (AllReadyIn.nil)
                  go_simp
                  refine hK _ _ ?_
                  clear hK K
                  refine wpAnyIn_ready (rs := [18]) (by kernel_rfl) (by simp) ?_
                  refine BigFrame.allReadyIn_want rfl rfl (fun K hK => ?_) (AllReadyIn.nil)
                  go_simp
                  refine hK _ _ ?_
                  clear hK K
                  refine wpAnyIn_ready (rs := [19]) (by kernel_rfl) (by simp) ?_
                  refine BigFrame.allReadyIn_want rfl rfl (fun K hK => ?_) (AllReadyIn.nil)
                  go_simp
                  refine hK _ _ ?_
                  clear hK K
                  refine wpAnyIn_done (by kernel_rfl) ?_ _
                  go_wp2_with (go_at_call 32; refine (CA.out _ hbV).mono ?_; rintro e w9 ⟨rfl, hb9⟩)
                  have HB9 := Lib.hid (H6.out.step (below_step hbV hb9))
                  clear hb9
                  go_wp2_with fail
                  go_ret
                  exact ⟨rfl, HB9.out.2.2.2⟩
                · have q0 := text_zeros ((W6.alloc zeroRow).drew) W6.heap.size hzM
                  go_simp
                  refine hK _ _ ?_
                  clear hK K q0
                  refine wpAnyIn_ready (rs := [14]) (by kernel_rfl) (by simp) ?_
                  refine BigFrame.allReadyIn_want rfl rfl (fun K hK => ?_) (AllReadyIn.nil)
                  go_simp
                  refine ⟨trivial, (callsIn_wide.2 (HSZ.out _ hbM)).mono ?_⟩
                  rintro e V ⟨rfl, hV⟩
                  have hbV := below_step hbM hV
                  refine hK _ _ ?_
                  clear hK K
                  have hzV := (hV.block _ (Array.getElem?_eq_some_iff.1 hzM).1).trans hzM
                  refine wpAnyIn_ready (rs := [17]) (by kernel_rfl) (by simp) ?_
                  refine BigFrame.allReadyIn_want rfl rfl (fun K hK => ?_) (AllReadyIn.nil)
                  go_simp
                  refine hK _ _ ?_
                  clear hK K
                  refine wpAnyIn_ready (rs := [18]) (by kernel_rfl) (by simp) ?_
                  refine BigFrame.allReadyIn_want rfl rfl (fun K hK => ?_) (AllReadyIn.nil)
                  go_simp
                  refine hK _ _ ?_
                  clear hK K
                  refine wpAnyIn_ready (rs := [19]) (by kernel_rfl) (by simp) ?_
                  refine BigFrame.allReadyIn_want rfl rfl (fun K hK => ?_) (AllReadyIn.nil)
                  go_simp
                  refine hK _ _ ?_
                  clear hK K
                  refine wpAnyIn_done (by kernel_rfl) ?_ _
                  go_wp2_with (go_at_call 32; refine (CA.out _ hbV).mono ?_; rintro e w9 ⟨rfl, hb9⟩)
                  have HB9 := Lib.hid (H6.out.step (below_step hbV hb9))
                  clear hb9
                  go_wp2_with fail
                  go_ret
                  exact ⟨rfl, HB9.out.2.2.2⟩
              · have q0 := text_zeros ((W6.alloc zeroRow).drew) W6.heap.size hzM
                go_simp
                refine hK _ _ ?_
                clear hK K q0
                refine wpAnyIn_ready (rs := [13]) (by kernel_rfl) (by simp) ?_
                refine BigFrame.allReadyIn_want rfl rfl (fun K hK => ?_) (AllReadyIn.nil)
                have q0 := HCZ.out _ hbM
                go_simp
                refine hK _ _ ?_
                clear hK K q0
                refine wpAnyIn_ready (rs := [14]) (by kernel_rfl) (by simp) ?_
                refine BigFrame.allReadyIn_want rfl rfl (fun K hK => ?_) (AllReadyIn.nil)
                go_simp
                refine ⟨trivial, (callsIn_wide.2 (HSZ.out _ hbM)).mono ?_⟩
                rintro e V ⟨rfl, hV⟩
                have hbV := below_step hbM hV
                refine hK _ _ ?_
                clear hK K
                have hzV := (hV.block _ (Array.getElem?_eq_some_iff.1 hzM).1).trans hzM
                refine wpAnyIn_ready (rs := [17]) (by kernel_rfl) (by simp) ?_
                refine BigFrame.allReadyIn_want rfl rfl (fun K hK => ?_) (AllReadyIn.nil)
                go_simp
                refine hK _ _ ?_
                clear hK K
                refine wpAnyIn_ready (rs := [18]) (by kernel_rfl) (by simp) ?_
                refine BigFrame.allReadyIn_want rfl rfl (fun K hK => ?_) (AllReadyIn.nil)
                go_simp
                refine hK _ _ ?_
                clear hK K
                refine wpAnyIn_ready (rs := [19]) (by kernel_rfl) (by simp) ?_
                refine BigFrame.allReadyIn_want rfl rfl (fun K hK => ?_) (AllReadyIn.nil)
                go_simp
                refine hK _ _ ?_
                clear hK K
                refine wpAnyIn_done (by kernel_rfl) ?_ _
                go_wp2_with (go_at_call 32; refine (CA.out _ hbV).mono ?_; rintro e w9 ⟨rfl, hb9⟩)
                have HB9 := Lib.hid (H6.out.step (below_step hbV hb9))
                clear hb9
                go_wp2_with fail
                go_ret
                exact ⟨rfl, HB9.out.2.2.2⟩
        · have CA := Lib.hid (fun V (hb : Below W6.heap.size W6 V) => collide_all dig X Y _ _ d1 d2 V (H6.out.1.below hb) (H6.out.2.1.below hb) (H6.out.2.2.1.below hb) HZSX.out HZSY.out)
          clear hmk htz hcz0 hcz1 hbd1 HIDX
          go_wp2_with fail
          refine (wpIn_wide (n := 6)).1 ?_
          refine wpIn_region_any (by kernel_rfl) ?_
          change wpAnyIn _ _ _ _ _ _ _ _ _ W6.drew
          refine wpAnyIn_take (i := 0) (oi := { dst := some 61, op := Op.move (Operand.tmp 6), type := 26, pos := "law.go:201", after := #[], guard := none }) (v := ?vc_0) rfl rfl (by kernel_rfl) (by kernel_rfl) (by kernel_rfl) (fun _ _ _ h => h) ⟨Or.inl ⟨by rfl, ?hyc_0⟩, fun _ => rfl⟩ ?restc_0
          case hyc_0 => intro w; go_simp; try with_reducible rfl
          simp only [Act.put, List.setIfInBounds_toArray, List.set_cons_zero, List.set_cons_succ]
          refine wpAnyIn_take (i := 1) (oi := { dst := some 62, op := Op.call { callee := Callee.builtin Builtin.len, args := #[Operand.tmp 61], argTypes := #[26] }, type := 3, pos := "law.go:201", after := #[{ on := 0, ground := Ground.data }], guard := none }) (v := ?vc_1) rfl rfl (by kernel_rfl) (by kernel_rfl) (by kernel_rfl) (fun _ _ _ h => h) ⟨Or.inl ⟨by rfl, ?hyc_1⟩, fun _ => rfl⟩ ?restc_1
          case hyc_1 => intro w; go_simp; try with_reducible rfl
          simp only [Act.put, List.setIfInBounds_toArray, List.set_cons_zero, List.set_cons_succ]
          refine wpAnyIn_take (i := 2) (oi := { dst := some 63, op := Op.move (Operand.tmp 8), type := 26, pos := "law.go:201", after := #[], guard := none }) (v := ?vc_2) rfl rfl (by kernel_rfl) (by kernel_rfl) (by kernel_rfl) (fun _ _ _ h => h) ⟨Or.inl ⟨by rfl, ?hyc_2⟩, fun _ => rfl⟩ ?restc_2
          case hyc_2 => intro w; go_simp; try with_reducible rfl
          simp only [Act.put, List.setIfInBounds_toArray, List.set_cons_zero, List.set_cons_succ]
          refine wpAnyIn_take (i := 3) (oi := { dst := some 64, op := Op.call { callee := Callee.builtin Builtin.len, args := #[Operand.tmp 63], argTypes := #[26] }, type := 3, pos := "law.go:201", after := #[{ on := 2, ground := Ground.data }], guard := none }) (v := ?vc_3) rfl rfl (by kernel_rfl) (by kernel_rfl) (by kernel_rfl) (fun _ _ _ h => h) ⟨Or.inl ⟨by rfl, ?hyc_3⟩, fun _ => rfl⟩ ?restc_3
          case hyc_3 => intro w; go_simp; try with_reducible rfl
          simp only [Act.put, List.setIfInBounds_toArray, List.set_cons_zero, List.set_cons_succ]
          refine wpAnyIn_take (i := 4) (oi := { dst := some 65, op := Op.binOp BinOp.neq 3 (Operand.tmp 62) (Operand.tmp 64) 3, type := 4, pos := "law.go:201", after := #[{ on := 1, ground := Ground.data }, { on := 3, ground := Ground.data }], guard := none }) (v := ?vc_4) rfl rfl (by kernel_rfl) (by kernel_rfl) (by kernel_rfl) (fun _ _ _ h => h) ⟨Or.inl ⟨by rfl, ?hyc_4⟩, fun _ => rfl⟩ ?restc_4
          case hyc_4 => intro w; go_simp; try with_reducible rfl
          simp only [Act.put, List.setIfInBounds_toArray, List.set_cons_zero, List.set_cons_succ]
          refine wpAnyIn_take (i := 5) (oi := { dst := some 66, op := Op.move (Operand.tmp 65), type := 4, pos := "law.go:201", after := #[{ on := 4, ground := Ground.data }], guard := none }) (v := ?vc_5) rfl rfl (by kernel_rfl) (by kernel_rfl) (by kernel_rfl) (fun _ _ _ h => h) ⟨Or.inl ⟨by rfl, ?hyc_5⟩, fun _ => rfl⟩ ?restc_5
          case hyc_5 => intro w; go_simp; try with_reducible rfl
          simp only [Act.put, List.setIfInBounds_toArray, List.set_cons_zero, List.set_cons_succ]
          refine wpAnyIn_take (i := 6) (oi := { dst := some 67, op := Op.move (Operand.tmp 11), type := 26, pos := "law.go:201", after := #[{ on := 5, ground := Ground.guard }], guard := some (5, true) }) (v := ?vc_6) rfl rfl (by kernel_rfl) (by kernel_rfl) (by kernel_rfl) (fun _ _ _ h => h) ⟨Or.inl ⟨by rfl, ?hyc_6⟩, fun _ => rfl⟩ ?restc_6
          case hyc_6 => intro w; go_simp; try with_reducible rfl
          simp only [Act.put, List.setIfInBounds_toArray, List.set_cons_zero, List.set_cons_succ]
          refine wpAnyIn_take (i := 7) (oi := { dst := some 68, op := Op.move (Operand.tmp 6), type := 26, pos := "law.go:201", after := #[{ on := 5, ground := Ground.guard }], guard := some (5, true) }) (v := ?vc_7) rfl rfl (by kernel_rfl) (by kernel_rfl) (by kernel_rfl) (fun _ _ _ h => h) ⟨Or.inl ⟨by rfl, ?hyc_7⟩, fun _ => rfl⟩ ?restc_7
          case hyc_7 => intro w; go_simp; try with_reducible rfl
          simp only [Act.put, List.setIfInBounds_toArray, List.set_cons_zero, List.set_cons_succ]
          refine wpAnyIn_take (i := 8) (oi := { dst := some 69, op := Op.call { callee := Callee.builtin Builtin.len, args := #[Operand.tmp 68], argTypes := #[26] }, type := 3, pos := "law.go:201", after := #[{ on := 7, ground := Ground.data }, { on := 5, ground := Ground.guard }], guard := some (5, true) }) (v := ?vc_8) rfl rfl (by kernel_rfl) (by kernel_rfl) (by kernel_rfl) (fun _ _ _ h => h) ⟨Or.inl ⟨by rfl, ?hyc_8⟩, fun _ => rfl⟩ ?restc_8
          case hyc_8 => intro w; go_simp; try with_reducible rfl
          simp only [Act.put, List.setIfInBounds_toArray, List.set_cons_zero, List.set_cons_succ]
          refine wpAnyIn_take (i := 9) (oi := { dst := some 70, op := Op.move (Operand.tmp 8), type := 26, pos := "law.go:201", after := #[{ on := 5, ground := Ground.guard }], guard := some (5, true) }) (v := ?vc_9) rfl rfl (by kernel_rfl) (by kernel_rfl) (by kernel_rfl) (fun _ _ _ h => h) ⟨Or.inl ⟨by rfl, ?hyc_9⟩, fun _ => rfl⟩ ?restc_9
          case hyc_9 => intro w; go_simp; try with_reducible rfl
          simp only [Act.put, List.setIfInBounds_toArray, List.set_cons_zero, List.set_cons_succ]
          refine wpAnyIn_take (i := 10) (oi := { dst := some 71, op := Op.call { callee := Callee.builtin Builtin.len, args := #[Operand.tmp 70], argTypes := #[26] }, type := 3, pos := "law.go:201", after := #[{ on := 9, ground := Ground.data }, { on := 5, ground := Ground.guard }], guard := some (5, true) }) (v := ?vc_10) rfl rfl (by kernel_rfl) (by kernel_rfl) (by kernel_rfl) (fun _ _ _ h => h) ⟨Or.inl ⟨by rfl, ?hyc_10⟩, fun _ => rfl⟩ ?restc_10
          case hyc_10 => intro w; go_simp; try with_reducible rfl
          simp only [Act.put, List.setIfInBounds_toArray, List.set_cons_zero, List.set_cons_succ]
          refine wpAnyIn_take (i := 11) (oi := { dst := some 72, op := Op.call { callee := Callee.builtin Builtin.min, args := #[Operand.tmp 69, Operand.tmp 71], argTypes := #[3, 3] }, type := 3, pos := "law.go:201", after := #[{ on := 8, ground := Ground.data }, { on := 10, ground := Ground.data }, { on := 5, ground := Ground.guard }], guard := some (5, true) }) (v := ?vc_11) rfl rfl (by kernel_rfl) (by kernel_rfl) (by kernel_rfl) (fun _ _ _ h => h) ⟨Or.inl ⟨by rfl, ?hyc_11⟩, fun _ => rfl⟩ ?restc_11
          case hyc_11 => intro w; go_simp; try with_reducible rfl
          simp only [Act.put, List.setIfInBounds_toArray, List.set_cons_zero, List.set_cons_succ]
          refine wpAnyIn_take (i := 12) (oi := { dst := some 73, op := Op.indexAddr 26 (Operand.tmp 67) (Operand.tmp 72), type := 0, pos := "law.go:201", after := #[{ on := 6, ground := Ground.data }, { on := 11, ground := Ground.data }, { on := 5, ground := Ground.guard }], guard := some (5, true) }) (v := ?vc_12) rfl rfl (by kernel_rfl) (by kernel_rfl) (by kernel_rfl) (fun _ _ _ h => h) ⟨Or.inl ⟨by rfl, ?hyc_12⟩, fun _ => rfl⟩ ?restc_12
          case hyc_12 => intro w; go_simp; try with_reducible rfl
          simp only [Act.put, List.setIfInBounds_toArray, List.set_cons_zero, List.set_cons_succ]
          refine wpAnyIn_ready (rs := [13, 15]) (by kernel_rfl) (by simp) ?_
          refine BigFrame.allReadyIn_want rfl rfl (fun K hK => ?_) (BigFrame.allReadyIn_want rfl rfl (fun K hK => ?_) (AllReadyIn.nil))
          · have q0 := HCZ.out _ hbd0
            go_simp
            refine hK _ _ ?_
            clear hK K q0
            refine wpAnyIn_ready (rs := [14, 15]) (by kernel_rfl) (by simp) ?_
            refine BigFrame.allReadyIn_want rfl rfl (fun K hK => ?_) (BigFrame.allReadyIn_want rfl rfl (fun K hK => ?_) (AllReadyIn.nil))
            · go_simp
              refine ⟨trivial, (callsIn_wide.2 (HSZ.out _ hbd0)).mono ?_⟩
              rintro e V ⟨rfl, hV⟩
              have hbV := below_step hbd0 hV
              refine hK _ _ ?_
              clear hK K
              refine wpAnyIn_ready (rs := [15]) (by kernel_rfl) (by simp) ?_
              refine BigFrame.allReadyIn_want rfl rfl (fun K hK => ?_) (AllReadyIn.nil)
              have q0 := make_zeros V
              go_simp
              refine hK _ _ ?_
              clear hK K q0
              have hbM : Below W6.heap.size W6 (V.alloc zeroRow) := hbV.alloc hbV.size _
              have hzM : (V.alloc zeroRow).heap[V.heap.size]? = some zeroRow := heap_alloc_new V _
              refine wpAnyIn_ready (rs := [16]) (by kernel_rfl) (by simp) ?_
              refine BigFrame.allReadyIn_want rfl rfl (fun K hK => ?_) (AllReadyIn.nil)
              have q0 := text_zeros (V.alloc zeroRow) V.heap.size hzM
              go_simp
              refine hK _ _ ?_
              clear hK K q0
              refine wpAnyIn_ready (rs := [17]) (by kernel_rfl) (by simp) ?_
              refine BigFrame.allReadyIn_want rfl rfl (fun K hK => ?_) (AllReadyIn.nil)
              go_simp
              refine hK _ _ ?_
              clear hK K
              refine wpAnyIn_ready (rs := [18]) (by kernel_rfl) (by simp) ?_
              refine BigFrame.allReadyIn_want rfl rfl (fun K hK => ?_) (AllReadyIn.nil)
              go_simp
              refine hK _ _ ?_
              clear hK K
              refine wpAnyIn_ready (rs := [19]) (by kernel_rfl) (by simp) ?_
              refine BigFrame.allReadyIn_want rfl rfl (fun K hK => ?_) (AllReadyIn.nil)
              go_simp
              refine hK _ _ ?_
              clear hK K
              refine wpAnyIn_done (by kernel_rfl) ?_ _
              go_wp2_with (go_at_call 32; refine (CA.out _ hbM).mono ?_; rintro e w9 ⟨⟨q9, rfl⟩, hb9⟩)
              all_goals (have HB9 := Lib.hid (H6.out.step (below_step hbM hb9)); clear hb9; go_ret; first | exact ⟨rfl, HB9.out.2.2.2⟩ | (subst_vars; exact ⟨rfl, HB9.out.2.2.2⟩))
            · have q0 := make_zeros W6.drew
              go_simp
              refine hK _ _ ?_
              clear hK K q0
              have hbM : Below W6.heap.size W6 ((W6.alloc zeroRow).drew) := ((Below.refl _ _).alloc (Nat.le_refl _) _).drew
              have hzM : ((W6.alloc zeroRow).drew).heap[W6.heap.size]? = some zeroRow := heap_alloc_new W6 _
              refine wpAnyIn_ready (rs := [14, 16]) (by kernel_rfl) (by simp) ?_
              refine BigFrame.allReadyIn_want rfl rfl (fun K hK => ?_) (BigFrame.allReadyIn_want rfl rfl (fun K hK => ?_) (AllReadyIn.nil))
              · go_simp
                refine ⟨trivial, (callsIn_wide.2 (HSZ.out _ hbM)).mono ?_⟩
                rintro e V ⟨rfl, hV⟩
                have hbV := below_step hbM hV
                refine hK _ _ ?_
                clear hK K
                have hzV := (hV.block _ (Array.getElem?_eq_some_iff.1 hzM).1).trans hzM
                refine wpAnyIn_ready (rs := [16]) (by kernel_rfl) (by simp) ?_
                refine BigFrame.allReadyIn_want rfl rfl (fun K hK => ?_) (AllReadyIn.nil)
                have q0 := text_zeros V W6.heap.size hzV
                go_simp
                refine hK _ _ ?_
                clear hK K q0
                refine wpAnyIn_ready (rs := [17]) (by kernel_rfl) (by simp) ?_
                refine BigFrame.allReadyIn_want rfl rfl (fun K hK => ?_) (AllReadyIn.nil)
                go_simp
                refine hK _ _ ?_
                clear hK K
                refine wpAnyIn_ready (rs := [18]) (by kernel_rfl) (by simp) ?_
                refine BigFrame.allReadyIn_want rfl rfl (fun K hK => ?_) (AllReadyIn.nil)
                go_simp
                refine hK _ _ ?_
                clear hK K
                refine wpAnyIn_ready (rs := [19]) (by kernel_rfl) (by simp) ?_
                refine BigFrame.allReadyIn_want rfl rfl (fun K hK => ?_) (AllReadyIn.nil)
                go_simp
                refine hK _ _ ?_
                clear hK K
                refine wpAnyIn_done (by kernel_rfl) ?_ _
                go_wp2_with (go_at_call 32; refine (CA.out _ hbV).mono ?_; rintro e w9 ⟨⟨q9, rfl⟩, hb9⟩)
                all_goals (have HB9 := Lib.hid (H6.out.step (below_step hbV hb9)); clear hb9; go_ret; first | exact ⟨rfl, HB9.out.2.2.2⟩ | (subst_vars; exact ⟨rfl, HB9.out.2.2.2⟩))
              · have q0 := text_zeros ((W6.alloc zeroRow).drew) W6.heap.size hzM
                go_simp
                refine hK _ _ ?_
                clear hK K q0
                refine wpAnyIn_ready (rs := [14]) (by kernel_rfl) (by simp) ?_
                refine BigFrame.allReadyIn_want rfl rfl (fun K hK => ?_) (AllReadyIn.nil)
                go_simp
                refine ⟨trivial, (callsIn_wide.2 (HSZ.out _ hbM)).mono ?_⟩
                rintro e V ⟨rfl, hV⟩
                have hbV := below_step hbM hV
                refine hK _ _ ?_
                clear hK K
                have hzV := (hV.block _ (Array.getElem?_eq_some_iff.1 hzM).1).trans hzM
                refine wpAnyIn_ready (rs := [17]) (by kernel_rfl) (by simp) ?_
                refine BigFrame.allReadyIn_want rfl rfl (fun K hK => ?_) (AllReadyIn.nil)
                go_simp
                refine hK _ _ ?_
                clear hK K
                refine wpAnyIn_ready (rs := [18]) (by kernel_rfl) (by simp) ?_
                refine BigFrame.allReadyIn_want rfl rfl (fun K hK => ?_) (AllReadyIn.nil)
                go_simp
                refine hK _ _ ?_
                clear hK K
                refine wpAnyIn_ready (rs := [19]) (by kernel_rfl) (by simp) ?_
                refine BigFrame.allReadyIn_want rfl rfl (fun K hK => ?_) (AllReadyIn.nil)
                go_simp
                refine hK _ _ ?_
                clear hK K
                refine wpAnyIn_done (by kernel_rfl) ?_ _
                go_wp2_with (go_at_call 32; refine (CA.out _ hbV).mono ?_; rintro e w9 ⟨⟨q9, rfl⟩, hb9⟩)
                all_goals (have HB9 := Lib.hid (H6.out.step (below_step hbV hb9)); clear hb9; go_ret; first | exact ⟨rfl, HB9.out.2.2.2⟩ | (subst_vars; exact ⟨rfl, HB9.out.2.2.2⟩))
          · have q0 := make_zeros W6.drew
            go_simp
            refine hK _ _ ?_
            clear hK K q0
            have hbM : Below W6.heap.size W6 ((W6.alloc zeroRow).drew) := ((Below.refl _ _).alloc (Nat.le_refl _) _).drew
            have hzM : ((W6.alloc zeroRow).drew).heap[W6.heap.size]? = some zeroRow := heap_alloc_new W6 _
            refine wpAnyIn_ready (rs := [13, 16]) (by kernel_rfl) (by simp) ?_
            refine BigFrame.allReadyIn_want rfl rfl (fun K hK => ?_) (BigFrame.allReadyIn_want rfl rfl (fun K hK => ?_) (AllReadyIn.nil))
            · have q0 := HCZ.out _ hbM
              go_simp
              refine hK _ _ ?_
              clear hK K q0
              refine wpAnyIn_ready (rs := [14, 16]) (by kernel_rfl) (by simp) ?_
              refine BigFrame.allReadyIn_want rfl rfl (fun K hK => ?_) (BigFrame.allReadyIn_want rfl rfl (fun K hK => ?_) (AllReadyIn.nil))
              · go_simp
                refine ⟨trivial, (callsIn_wide.2 (HSZ.out _ hbM)).mono ?_⟩
                rintro e V ⟨rfl, hV⟩
                have hbV := below_step hbM hV
                refine hK _ _ ?_
                clear hK K
                have hzV := (hV.block _ (Array.getElem?_eq_some_iff.1 hzM).1).trans hzM
                refine wpAnyIn_ready (rs := [16]) (by kernel_rfl) (by simp) ?_
                refine BigFrame.allReadyIn_want rfl rfl (fun K hK => ?_) (AllReadyIn.nil)
                have q0 := text_zeros V W6.heap.size hzV
                go_simp
                refine hK _ _ ?_
                clear hK K q0
                refine wpAnyIn_ready (rs := [17]) (by kernel_rfl) (by simp) ?_
                refine BigFrame.allReadyIn_want rfl rfl (fun K hK => ?_) (AllReadyIn.nil)
                go_simp
                refine hK _ _ ?_
                clear hK K
                refine wpAnyIn_ready (rs := [18]) (by kernel_rfl) (by simp) ?_
                refine BigFrame.allReadyIn_want rfl rfl (fun K hK => ?_) (AllReadyIn.nil)
                go_simp
                refine hK _ _ ?_
                clear hK K
                refine wpAnyIn_ready (rs := [19]) (by kernel_rfl) (by simp) ?_
                refine BigFrame.allReadyIn_want rfl rfl (fun K hK => ?_) (AllReadyIn.nil)
                go_simp
                refine hK _ _ ?_
                clear hK K
                refine wpAnyIn_done (by kernel_rfl) ?_ _
                go_wp2_with (go_at_call 32; refine (CA.out _ hbV).mono ?_; rintro e w9 ⟨⟨q9, rfl⟩, hb9⟩)
                all_goals (have HB9 := Lib.hid (H6.out.step (below_step hbV hb9)); clear hb9; go_ret; first | exact ⟨rfl, HB9.out.2.2.2⟩ | (subst_vars; exact ⟨rfl, HB9.out.2.2.2⟩))
              · have q0 := text_zeros ((W6.alloc zeroRow).drew) W6.heap.size hzM
                go_simp
                refine hK _ _ ?_
                clear hK K q0
                refine wpAnyIn_ready (rs := [14]) (by kernel_rfl) (by simp) ?_
                refine BigFrame.allReadyIn_want rfl rfl (fun K hK => ?_) (AllReadyIn.nil)
                go_simp
                refine ⟨trivial, (callsIn_wide.2 (HSZ.out _ hbM)).mono ?_⟩
                rintro e V ⟨rfl, hV⟩
                have hbV := below_step hbM hV
                refine hK _ _ ?_
                clear hK K
                have hzV := (hV.block _ (Array.getElem?_eq_some_iff.1 hzM).1).trans hzM
                refine wpAnyIn_ready (rs := [17]) (by kernel_rfl) (by simp) ?_
                refine BigFrame.allReadyIn_want rfl rfl (fun K hK => ?_) (AllReadyIn.nil)
                go_simp
                refine hK _ _ ?_
                clear hK K
                refine wpAnyIn_ready (rs := [18]) (by kernel_rfl) (by simp) ?_
                refine BigFrame.allReadyIn_want rfl rfl (fun K hK => ?_) (AllReadyIn.nil)
                go_simp
                refine hK _ _ ?_
                clear hK K
                refine wpAnyIn_ready (rs := [19]) (by kernel_rfl) (by simp) ?_
                refine BigFrame.allReadyIn_want rfl rfl (fun K hK => ?_) (AllReadyIn.nil)
                go_simp
                refine hK _ _ ?_
                clear hK K
                refine wpAnyIn_done (by kernel_rfl) ?_ _
                go_wp2_with (go_at_call 32; refine (CA.out _ hbV).mono ?_; rintro e w9 ⟨⟨q9, rfl⟩, hb9⟩)
                all_goals (have HB9 := Lib.hid (H6.out.step (below_step hbV hb9)); clear hb9; go_ret; first | exact ⟨rfl, HB9.out.2.2.2⟩ | (subst_vars; exact ⟨rfl, HB9.out.2.2.2⟩))
            · have q0 := text_zeros ((W6.alloc zeroRow).drew) W6.heap.size hzM
              go_simp
              refine hK _ _ ?_
              clear hK K q0
              refine wpAnyIn_ready (rs := [13]) (by kernel_rfl) (by simp) ?_
              refine BigFrame.allReadyIn_want rfl rfl (fun K hK => ?_) (AllReadyIn.nil)
              have q0 := HCZ.out _ hbM
              go_simp
              refine hK _ _ ?_
              clear hK K q0
              refine wpAnyIn_ready (rs := [14]) (by kernel_rfl) (by simp) ?_
              refine BigFrame.allReadyIn_want rfl rfl (fun K hK => ?_) (AllReadyIn.nil)
              go_simp
              refine ⟨trivial, (callsIn_wide.2 (HSZ.out _ hbM)).mono ?_⟩
              rintro e V ⟨rfl, hV⟩
              have hbV := below_step hbM hV
              refine hK _ _ ?_
              clear hK K
              have hzV := (hV.block _ (Array.getElem?_eq_some_iff.1 hzM).1).trans hzM
              refine wpAnyIn_ready (rs := [17]) (by kernel_rfl) (by simp) ?_
              refine BigFrame.allReadyIn_want rfl rfl (fun K hK => ?_) (AllReadyIn.nil)
              go_simp
              refine hK _ _ ?_
              clear hK K
              refine wpAnyIn_ready (rs := [18]) (by kernel_rfl) (by simp) ?_
              refine BigFrame.allReadyIn_want rfl rfl (fun K hK => ?_) (AllReadyIn.nil)
              go_simp
              refine hK _ _ ?_
              clear hK K
              refine wpAnyIn_ready (rs := [19]) (by kernel_rfl) (by simp) ?_
              refine BigFrame.allReadyIn_want rfl rfl (fun K hK => ?_) (AllReadyIn.nil)
              go_simp
              refine hK _ _ ?_
              clear hK K
              refine wpAnyIn_done (by kernel_rfl) ?_ _
              go_wp2_with (go_at_call 32; refine (CA.out _ hbV).mono ?_; rintro e w9 ⟨⟨q9, rfl⟩, hb9⟩)
              all_goals (have HB9 := Lib.hid (H6.out.step (below_step hbV hb9)); clear hb9; go_ret; first | exact ⟨rfl, HB9.out.2.2.2⟩ | (subst_vars; exact ⟨rfl, HB9.out.2.2.2⟩))
      · have hcl2 : Clash Sha.shaS X Y := by
          rcases hcl with h1 | ⟨h1, _⟩ | ⟨h1, _⟩
          · exact h1
          · exfalso; omega
          · exfalso; omega
        have hne1 : ((X.length : Int) != (Y.length : Int)) = false := by rw [heq]; simp
        have hgt : decide ((X.length : Int) < (Y.length : Int)) = false := by simp; omega
        have hnl : ¬ X.length < Y.length := by omega
        have HCL := Lib.hid hcl2
        clear hcl2 hcl heq hlx hly hgt
        go_wp2_with fail
        go_quiet (fail)
        have CA := Lib.hid (fun V (hb : Below W6.heap.size W6 V) => collide_any dig X Y _ _ d1 d2 V (H6.out.1.below hb) (H6.out.2.1.below hb) (H6.out.2.2.1.below hb) HZSX.out HZSY.out HCL.out)
        go_wp2_with (go_at_call 32; refine (CA.out _ (below_drewN (Below.refl _ _) _)).mono ?_; rintro e w9 ⟨rfl, hb9⟩)
        have HB9 := Lib.hid (H6.out.step (below_step (below_drewN (Below.refl _ _) _) hb9))
        clear hb9
        go_wp2_with fail
        go_ret
        exact ⟨rfl, HB9.out.2.2.2⟩
      · have hll : Y.length < X.length := by omega
        obtain ⟨bp, bo, rfl, lb, lc⟩ := H6.out.2.1.2.2 Y.length hll
        have hzs : (X[Y.length]).size ≤ 1000 := HZSX.out _ (List.getElem_mem hll)
        have hcc : Clash Sha.shaS X Y ∨ ((Sha.shaS (X[Y.length])).toList == zeros.toList) = true := by
          rcases hcl with h1 | ⟨h1, z, h2, h3⟩ | ⟨h1, z, h2, h3⟩
          · exact .inl h1
          · first | (exfalso; omega) | (refine .inr ?_; rw [← HC.out.2.2.1] at h2; have e := (List.getElem?_eq_some_iff.1 h2).2; rw [e, h3]; simp)
          · first | (exfalso; omega) | (refine .inr ?_; rw [← HC.out.2.2.2.1] at h2; have e := (List.getElem?_eq_some_iff.1 h2).2; rw [e, h3]; simp)
        generalize X[Y.length] = z at *
        have hCz : ∀ V, Below W6.heap.size W6 V → V.cell? ⟨bp, bo + Y.length, none⟩ = some (.string z) := fun V hb => (hb.cell (p := ⟨bp, bo + Y.length, none⟩) lb).trans lc
        have hSz : ∀ V, Below W6.heap.size W6 V → Calls Tryd.prog 12 #[.string z] V fun e w' => e = .returned (.string (Sha.shaS z)) ∧ Below V.heap.size V w' := fun V hb => sum_any z V (H6.out.1.below hb) (by omega)
        have hne1 : ((X.length : Int) != (Y.length : Int)) = true := bne_iff_ne.2 (by omega)
        have hgt : decide ((X.length : Int) < (Y.length : Int)) = false := by simp; omega
        have hmn : min (X.length : Int) (Y.length : Int) = (Y.length : Int) := by omega
        have hmn2 : (if (Y.length : Int) < (X.length : Int) then (Y.length : Int) else (X.length : Int)) = (Y.length : Int) := by split <;> omega
        have hix : (Y.length : Int) < (X.length : Int) := by omega
        have HIDX := Lib.hid hcc
        have HCZ := Lib.hid hCz
        have HSZ := Lib.hid hSz
        have hcz0 := hCz W6.drew (Below.refl _ _).drew
        have hcz1 := hCz (W6.drew.alloc zeroRow) ((Below.refl _ _).drew.alloc (Nat.le_refl _) _)
        have hbd0 : Below W6.heap.size W6 W6.drew := (Below.refl _ _).drew
        have hbd1 : Below W6.heap.size W6 (W6.drew.alloc zeroRow) := (Below.refl _ _).drew.alloc (Nat.le_refl _) _
        have hmk := make_zeros
        have htz := text_zeros (W6.drew.alloc zeroRow) W6.heap.size (heap_alloc_new W6.drew _)
        have hne3 : ¬ X.length = Y.length := by omega
        clear hcc hCz hSz hcl lb lc hll hlx hly
        generalize Sha.shaS z = sz at *
        rcases HIDX.out with hC | hz
        · have CA := Lib.hid (fun V (hb : Below W6.heap.size W6 V) => collide_any dig X Y _ _ d1 d2 V (H6.out.1.below hb) (H6.out.2.1.below hb) (H6.out.2.2.1.below hb) HZSX.out HZSY.out hC)
          clear hC hmk htz hcz0 hcz1 hbd1 HIDX
          cases hzz : (sz.toList == zeros.toList) with
          | true =>
            go_wp2_with fail
            refine (wpIn_wide (n := 6)).1 ?_
            refine wpIn_region_any (by kernel_rfl) ?_
            change wpAnyIn _ _ _ _ _ _ _ _ _ W6.drew
            refine wpAnyIn_take (i := 0) (oi := { dst := some 61, op := Op.move (Operand.tmp 6), type := 26, pos := "law.go:201", after := #[], guard := none }) (v := ?vay_0) rfl rfl (by kernel_rfl) (by kernel_rfl) (by kernel_rfl) (fun _ _ _ h => h) ⟨Or.inl ⟨by rfl, ?hyay_0⟩, fun _ => rfl⟩ ?restay_0
            case hyay_0 => intro w; go_simp; try with_reducible rfl
            simp only [Act.put, List.setIfInBounds_toArray, List.set_cons_zero, List.set_cons_succ]
            refine wpAnyIn_take (i := 1) (oi := { dst := some 62, op := Op.call { callee := Callee.builtin Builtin.len, args := #[Operand.tmp 61], argTypes := #[26] }, type := 3, pos := "law.go:201", after := #[{ on := 0, ground := Ground.data }], guard := none }) (v := ?vay_1) rfl rfl (by kernel_rfl) (by kernel_rfl) (by kernel_rfl) (fun _ _ _ h => h) ⟨Or.inl ⟨by rfl, ?hyay_1⟩, fun _ => rfl⟩ ?restay_1
            case hyay_1 => intro w; go_simp; try with_reducible rfl
            simp only [Act.put, List.setIfInBounds_toArray, List.set_cons_zero, List.set_cons_succ]
            refine wpAnyIn_take (i := 2) (oi := { dst := some 63, op := Op.move (Operand.tmp 8), type := 26, pos := "law.go:201", after := #[], guard := none }) (v := ?vay_2) rfl rfl (by kernel_rfl) (by kernel_rfl) (by kernel_rfl) (fun _ _ _ h => h) ⟨Or.inl ⟨by rfl, ?hyay_2⟩, fun _ => rfl⟩ ?restay_2
            case hyay_2 => intro w; go_simp; try with_reducible rfl
            simp only [Act.put, List.setIfInBounds_toArray, List.set_cons_zero, List.set_cons_succ]
            refine wpAnyIn_take (i := 3) (oi := { dst := some 64, op := Op.call { callee := Callee.builtin Builtin.len, args := #[Operand.tmp 63], argTypes := #[26] }, type := 3, pos := "law.go:201", after := #[{ on := 2, ground := Ground.data }], guard := none }) (v := ?vay_3) rfl rfl (by kernel_rfl) (by kernel_rfl) (by kernel_rfl) (fun _ _ _ h => h) ⟨Or.inl ⟨by rfl, ?hyay_3⟩, fun _ => rfl⟩ ?restay_3
            case hyay_3 => intro w; go_simp; try with_reducible rfl
            simp only [Act.put, List.setIfInBounds_toArray, List.set_cons_zero, List.set_cons_succ]
            refine wpAnyIn_take (i := 4) (oi := { dst := some 65, op := Op.binOp BinOp.neq 3 (Operand.tmp 62) (Operand.tmp 64) 3, type := 4, pos := "law.go:201", after := #[{ on := 1, ground := Ground.data }, { on := 3, ground := Ground.data }], guard := none }) (v := ?vay_4) rfl rfl (by kernel_rfl) (by kernel_rfl) (by kernel_rfl) (fun _ _ _ h => h) ⟨Or.inl ⟨by rfl, ?hyay_4⟩, fun _ => rfl⟩ ?restay_4
            case hyay_4 => intro w; go_simp; try with_reducible rfl
            simp only [Act.put, List.setIfInBounds_toArray, List.set_cons_zero, List.set_cons_succ]
            refine wpAnyIn_take (i := 5) (oi := { dst := some 66, op := Op.move (Operand.tmp 65), type := 4, pos := "law.go:201", after := #[{ on := 4, ground := Ground.data }], guard := none }) (v := ?vay_5) rfl rfl (by kernel_rfl) (by kernel_rfl) (by kernel_rfl) (fun _ _ _ h => h) ⟨Or.inl ⟨by rfl, ?hyay_5⟩, fun _ => rfl⟩ ?restay_5
            case hyay_5 => intro w; go_simp; try with_reducible rfl
            simp only [Act.put, List.setIfInBounds_toArray, List.set_cons_zero, List.set_cons_succ]
            refine wpAnyIn_take (i := 6) (oi := { dst := some 67, op := Op.move (Operand.tmp 11), type := 26, pos := "law.go:201", after := #[{ on := 5, ground := Ground.guard }], guard := some (5, true) }) (v := ?vay_6) rfl rfl (by kernel_rfl) (by kernel_rfl) (by kernel_rfl) (fun _ _ _ h => h) ⟨Or.inl ⟨by rfl, ?hyay_6⟩, fun _ => rfl⟩ ?restay_6
            case hyay_6 => intro w; go_simp; try with_reducible rfl
            simp only [Act.put, List.setIfInBounds_toArray, List.set_cons_zero, List.set_cons_succ]
            refine wpAnyIn_take (i := 7) (oi := { dst := some 68, op := Op.move (Operand.tmp 6), type := 26, pos := "law.go:201", after := #[{ on := 5, ground := Ground.guard }], guard := some (5, true) }) (v := ?vay_7) rfl rfl (by kernel_rfl) (by kernel_rfl) (by kernel_rfl) (fun _ _ _ h => h) ⟨Or.inl ⟨by rfl, ?hyay_7⟩, fun _ => rfl⟩ ?restay_7
            case hyay_7 => intro w; go_simp; try with_reducible rfl
            simp only [Act.put, List.setIfInBounds_toArray, List.set_cons_zero, List.set_cons_succ]
            refine wpAnyIn_take (i := 8) (oi := { dst := some 69, op := Op.call { callee := Callee.builtin Builtin.len, args := #[Operand.tmp 68], argTypes := #[26] }, type := 3, pos := "law.go:201", after := #[{ on := 7, ground := Ground.data }, { on := 5, ground := Ground.guard }], guard := some (5, true) }) (v := ?vay_8) rfl rfl (by kernel_rfl) (by kernel_rfl) (by kernel_rfl) (fun _ _ _ h => h) ⟨Or.inl ⟨by rfl, ?hyay_8⟩, fun _ => rfl⟩ ?restay_8
            case hyay_8 => intro w; go_simp; try with_reducible rfl
            simp only [Act.put, List.setIfInBounds_toArray, List.set_cons_zero, List.set_cons_succ]
            refine wpAnyIn_take (i := 9) (oi := { dst := some 70, op := Op.move (Operand.tmp 8), type := 26, pos := "law.go:201", after := #[{ on := 5, ground := Ground.guard }], guard := some (5, true) }) (v := ?vay_9) rfl rfl (by kernel_rfl) (by kernel_rfl) (by kernel_rfl) (fun _ _ _ h => h) ⟨Or.inl ⟨by rfl, ?hyay_9⟩, fun _ => rfl⟩ ?restay_9
            case hyay_9 => intro w; go_simp; try with_reducible rfl
            simp only [Act.put, List.setIfInBounds_toArray, List.set_cons_zero, List.set_cons_succ]
            refine wpAnyIn_take (i := 10) (oi := { dst := some 71, op := Op.call { callee := Callee.builtin Builtin.len, args := #[Operand.tmp 70], argTypes := #[26] }, type := 3, pos := "law.go:201", after := #[{ on := 9, ground := Ground.data }, { on := 5, ground := Ground.guard }], guard := some (5, true) }) (v := ?vay_10) rfl rfl (by kernel_rfl) (by kernel_rfl) (by kernel_rfl) (fun _ _ _ h => h) ⟨Or.inl ⟨by rfl, ?hyay_10⟩, fun _ => rfl⟩ ?restay_10
            case hyay_10 => intro w; go_simp; try with_reducible rfl
            simp only [Act.put, List.setIfInBounds_toArray, List.set_cons_zero, List.set_cons_succ]
            refine wpAnyIn_take (i := 11) (oi := { dst := some 72, op := Op.call { callee := Callee.builtin Builtin.min, args := #[Operand.tmp 69, Operand.tmp 71], argTypes := #[3, 3] }, type := 3, pos := "law.go:201", after := #[{ on := 8, ground := Ground.data }, { on := 10, ground := Ground.data }, { on := 5, ground := Ground.guard }], guard := some (5, true) }) (v := ?vay_11) rfl rfl (by kernel_rfl) (by kernel_rfl) (by kernel_rfl) (fun _ _ _ h => h) ⟨Or.inl ⟨by rfl, ?hyay_11⟩, fun _ => rfl⟩ ?restay_11
            case hyay_11 => intro w; go_simp; try with_reducible rfl
            simp only [Act.put, List.setIfInBounds_toArray, List.set_cons_zero, List.set_cons_succ]
            refine wpAnyIn_take (i := 12) (oi := { dst := some 73, op := Op.indexAddr 26 (Operand.tmp 67) (Operand.tmp 72), type := 0, pos := "law.go:201", after := #[{ on := 6, ground := Ground.data }, { on := 11, ground := Ground.data }, { on := 5, ground := Ground.guard }], guard := some (5, true) }) (v := ?vay_12) rfl rfl (by kernel_rfl) (by kernel_rfl) (by kernel_rfl) (fun _ _ _ h => h) ⟨Or.inl ⟨by rfl, ?hyay_12⟩, fun _ => rfl⟩ ?restay_12
            case hyay_12 => intro w; go_simp; try with_reducible rfl
            simp only [Act.put, List.setIfInBounds_toArray, List.set_cons_zero, List.set_cons_succ]
            refine wpAnyIn_ready (rs := [13, 15]) (by kernel_rfl) (by simp) ?_
            refine BigFrame.allReadyIn_want rfl rfl (fun K hK => ?_) (BigFrame.allReadyIn_want rfl rfl (fun K hK => ?_) (AllReadyIn.nil))
            · have q0 := HCZ.out _ hbd0
              go_simp
              refine hK _ _ ?_
              clear hK K q0
              refine wpAnyIn_ready (rs := [14, 15]) (by kernel_rfl) (by simp) ?_
              refine BigFrame.allReadyIn_want rfl rfl (fun K hK => ?_) (BigFrame.allReadyIn_want rfl rfl (fun K hK => ?_) (AllReadyIn.nil))
              · go_simp
                refine ⟨trivial, (callsIn_wide.2 (HSZ.out _ hbd0)).mono ?_⟩
                rintro e V ⟨rfl, hV⟩
                have hbV := below_step hbd0 hV
                refine hK _ _ ?_
                clear hK K
                refine wpAnyIn_ready (rs := [15]) (by kernel_rfl) (by simp) ?_
                refine BigFrame.allReadyIn_want rfl rfl (fun K hK => ?_) (AllReadyIn.nil)
                have q0 := make_zeros V
                go_simp
                refine hK _ _ ?_
                clear hK K q0
                have hbM : Below W6.heap.size W6 (V.alloc zeroRow) := hbV.alloc hbV.size _
                have hzM : (V.alloc zeroRow).heap[V.heap.size]? = some zeroRow := heap_alloc_new V _
                refine wpAnyIn_ready (rs := [16]) (by kernel_rfl) (by simp) ?_
                refine BigFrame.allReadyIn_want rfl rfl (fun K hK => ?_) (AllReadyIn.nil)
                have q0 := text_zeros (V.alloc zeroRow) V.heap.size hzM
                go_simp
                refine hK _ _ ?_
                clear hK K q0
                refine wpAnyIn_ready (rs := [17]) (by kernel_rfl) (by simp) ?_
                refine BigFrame.allReadyIn_want rfl rfl (fun K hK => ?_) (AllReadyIn.nil)
                go_simp
                refine hK _ _ ?_
                clear hK K
                refine wpAnyIn_ready (rs := [18]) (by kernel_rfl) (by simp) ?_
                refine BigFrame.allReadyIn_want rfl rfl (fun K hK => ?_) (AllReadyIn.nil)
                go_simp
                refine hK _ _ ?_
                clear hK K
                refine wpAnyIn_ready (rs := [19]) (by kernel_rfl) (by simp) ?_
                refine BigFrame.allReadyIn_want rfl rfl (fun K hK => ?_) (AllReadyIn.nil)
                go_simp
                refine hK _ _ ?_
                clear hK K
                refine wpAnyIn_done (by kernel_rfl) ?_ _
                go_wp2_with (go_at_call 32; refine (CA.out _ hbM).mono ?_; rintro e w9 ⟨rfl, hb9⟩)
                have HB9 := Lib.hid (H6.out.step (below_step hbM hb9))
                clear hb9
                go_wp2_with fail
                go_ret
                exact ⟨rfl, HB9.out.2.2.2⟩
              · have q0 := make_zeros W6.drew
                go_simp
                refine hK _ _ ?_
                clear hK K q0
                have hbM : Below W6.heap.size W6 ((W6.alloc zeroRow).drew) := ((Below.refl _ _).alloc (Nat.le_refl _) _).drew
                have hzM : ((W6.alloc zeroRow).drew).heap[W6.heap.size]? = some zeroRow := heap_alloc_new W6 _
                refine wpAnyIn_ready (rs := [14, 16]) (by kernel_rfl) (by simp) ?_
                refine BigFrame.allReadyIn_want rfl rfl (fun K hK => ?_) (BigFrame.allReadyIn_want rfl rfl (fun K hK => ?_) (AllReadyIn.nil))
                · go_simp
                  refine ⟨trivial, (callsIn_wide.2 (HSZ.out _ hbM)).mono ?_⟩
                  rintro e V ⟨rfl, hV⟩
                  have hbV := below_step hbM hV
                  refine hK _ _ ?_
                  clear hK K
                  have hzV := (hV.block _ (Array.getElem?_eq_some_iff.1 hzM).1).trans hzM
                  refine wpAnyIn_ready (rs := [16]) (by kernel_rfl) (by simp) ?_
                  refine BigFrame.allReadyIn_want rfl rfl (fun K hK => ?_) (AllReadyIn.nil)
                  have q0 := text_zeros V W6.heap.size hzV
                  go_simp
                  refine hK _ _ ?_
                  clear hK K q0
                  refine wpAnyIn_ready (rs := [17]) (by kernel_rfl) (by simp) ?_
                  refine BigFrame.allReadyIn_want rfl rfl (fun K hK => ?_) (AllReadyIn.nil)
                  go_simp
                  refine hK _ _ ?_
                  clear hK K
                  refine wpAnyIn_ready (rs := [18]) (by kernel_rfl) (by simp) ?_
                  refine BigFrame.allReadyIn_want rfl rfl (fun K hK => ?_) (AllReadyIn.nil)
                  go_simp
                  refine hK _ _ ?_
                  clear hK K
                  refine wpAnyIn_ready (rs := [19]) (by kernel_rfl) (by simp) ?_
                  refine BigFrame.allReadyIn_want rfl rfl (fun K hK => ?_) (AllReadyIn.nil)
                  go_simp
                  refine hK _ _ ?_
                  clear hK K
                  refine wpAnyIn_done (by kernel_rfl) ?_ _
                  go_wp2_with (go_at_call 32; refine (CA.out _ hbV).mono ?_; rintro e w9 ⟨rfl, hb9⟩)
                  have HB9 := Lib.hid (H6.out.step (below_step hbV hb9))
                  clear hb9
                  go_wp2_with fail
                  go_ret
                  exact ⟨rfl, HB9.out.2.2.2⟩
                · have q0 := text_zeros ((W6.alloc zeroRow).drew) W6.heap.size hzM
                  go_simp
                  refine hK _ _ ?_
                  clear hK K q0
                  refine wpAnyIn_ready (rs := [14]) (by kernel_rfl) (by simp) ?_
                  refine BigFrame.allReadyIn_want rfl rfl (fun K hK => ?_) (AllReadyIn.nil)
                  go_simp
                  refine ⟨trivial, (callsIn_wide.2 (HSZ.out _ hbM)).mono ?_⟩
                  rintro e V ⟨rfl, hV⟩
                  have hbV := below_step hbM hV
                  refine hK _ _ ?_
                  clear hK K
                  have hzV := (hV.block _ (Array.getElem?_eq_some_iff.1 hzM).1).trans hzM
                  refine wpAnyIn_ready (rs := [17]) (by kernel_rfl) (by simp) ?_
                  refine BigFrame.allReadyIn_want rfl rfl (fun K hK => ?_) (AllReadyIn.nil)
                  go_simp
                  refine hK _ _ ?_
                  clear hK K
                  refine wpAnyIn_ready (rs := [18]) (by kernel_rfl) (by simp) ?_
                  refine BigFrame.allReadyIn_want rfl rfl (fun K hK => ?_) (AllReadyIn.nil)
                  go_simp
                  refine hK _ _ ?_
                  clear hK K
                  refine wpAnyIn_ready (rs := [19]) (by kernel_rfl) (by simp) ?_
                  refine BigFrame.allReadyIn_want rfl rfl (fun K hK => ?_) (AllReadyIn.nil)
                  go_simp
                  refine hK _ _ ?_
                  clear hK K
                  refine wpAnyIn_done (by kernel_rfl) ?_ _
                  go_wp2_with (go_at_call 32; refine (CA.out _ hbV).mono ?_; rintro e w9 ⟨rfl, hb9⟩)
                  have HB9 := Lib.hid (H6.out.step (below_step hbV hb9))
                  clear hb9
                  go_wp2_with fail
                  go_ret
                  exact ⟨rfl, HB9.out.2.2.2⟩
            · have q0 := make_zeros W6.drew
              go_simp
              refine hK _ _ ?_
              clear hK K q0
              have hbM : Below W6.heap.size W6 ((W6.alloc zeroRow).drew) := ((Below.refl _ _).alloc (Nat.le_refl _) _).drew
              have hzM : ((W6.alloc zeroRow).drew).heap[W6.heap.size]? = some zeroRow := heap_alloc_new W6 _
              refine wpAnyIn_ready (rs := [13, 16]) (by kernel_rfl) (by simp) ?_
              refine BigFrame.allReadyIn_want rfl rfl (fun K hK => ?_) (BigFrame.allReadyIn_want rfl rfl (fun K hK => ?_) (AllReadyIn.nil))
              · have q0 := HCZ.out _ hbM
                go_simp
                refine hK _ _ ?_
                clear hK K q0
                refine wpAnyIn_ready (rs := [14, 16]) (by kernel_rfl) (by simp) ?_
                refine BigFrame.allReadyIn_want rfl rfl (fun K hK => ?_) (BigFrame.allReadyIn_want rfl rfl (fun K hK => ?_) (AllReadyIn.nil))
                · go_simp
                  refine ⟨trivial, (callsIn_wide.2 (HSZ.out _ hbM)).mono ?_⟩
                  rintro e V ⟨rfl, hV⟩
                  have hbV := below_step hbM hV
                  refine hK _ _ ?_
                  clear hK K
                  have hzV := (hV.block _ (Array.getElem?_eq_some_iff.1 hzM).1).trans hzM
                  refine wpAnyIn_ready (rs := [16]) (by kernel_rfl) (by simp) ?_
                  refine BigFrame.allReadyIn_want rfl rfl (fun K hK => ?_) (AllReadyIn.nil)
                  have q0 := text_zeros V W6.heap.size hzV
                  go_simp
                  refine hK _ _ ?_
                  clear hK K q0
                  refine wpAnyIn_ready (rs := [17]) (by kernel_rfl) (by simp) ?_
                  refine BigFrame.allReadyIn_want rfl rfl (fun K hK => ?_) (AllReadyIn.nil)
                  go_simp
                  refine hK _ _ ?_
                  clear hK K
                  refine wpAnyIn_ready (rs := [18]) (by kernel_rfl) (by simp) ?_
                  refine BigFrame.allReadyIn_want rfl rfl (fun K hK => ?_) (AllReadyIn.nil)
                  go_simp
                  refine hK _ _ ?_
                  clear hK K
                  refine wpAnyIn_ready (rs := [19]) (by kernel_rfl) (by simp) ?_
                  refine BigFrame.allReadyIn_want rfl rfl (fun K hK => ?_) (AllReadyIn.nil)
                  go_simp
                  refine hK _ _ ?_
                  clear hK K
                  refine wpAnyIn_done (by kernel_rfl) ?_ _
                  go_wp2_with (go_at_call 32; refine (CA.out _ hbV).mono ?_; rintro e w9 ⟨rfl, hb9⟩)
                  have HB9 := Lib.hid (H6.out.step (below_step hbV hb9))
                  clear hb9
                  go_wp2_with fail
                  go_ret
                  exact ⟨rfl, HB9.out.2.2.2⟩
                · have q0 := text_zeros ((W6.alloc zeroRow).drew) W6.heap.size hzM
                  go_simp
                  refine hK _ _ ?_
                  clear hK K q0
                  refine wpAnyIn_ready (rs := [14]) (by kernel_rfl) (by simp) ?_
                  refine BigFrame.allReadyIn_want rfl rfl (fun K hK => ?_) (AllReadyIn.nil)
                  go_simp
                  refine ⟨trivial, (callsIn_wide.2 (HSZ.out _ hbM)).mono ?_⟩
                  rintro e V ⟨rfl, hV⟩
                  have hbV := below_step hbM hV
                  refine hK _ _ ?_
                  clear hK K
                  have hzV := (hV.block _ (Array.getElem?_eq_some_iff.1 hzM).1).trans hzM
                  refine wpAnyIn_ready (rs := [17]) (by kernel_rfl) (by simp) ?_
                  refine BigFrame.allReadyIn_want rfl rfl (fun K hK => ?_) (AllReadyIn.nil)
                  go_simp
                  refine hK _ _ ?_
                  clear hK K
                  refine wpAnyIn_ready (rs := [18]) (by kernel_rfl) (by simp) ?_
                  refine BigFrame.allReadyIn_want rfl rfl (fun K hK => ?_) (AllReadyIn.nil)
                  go_simp
                  refine hK _ _ ?_
                  clear hK K
                  refine wpAnyIn_ready (rs := [19]) (by kernel_rfl) (by simp) ?_
                  refine BigFrame.allReadyIn_want rfl rfl (fun K hK => ?_) (AllReadyIn.nil)
                  go_simp
                  refine hK _ _ ?_
                  clear hK K
                  refine wpAnyIn_done (by kernel_rfl) ?_ _
                  go_wp2_with (go_at_call 32; refine (CA.out _ hbV).mono ?_; rintro e w9 ⟨rfl, hb9⟩)
                  have HB9 := Lib.hid (H6.out.step (below_step hbV hb9))
                  clear hb9
                  go_wp2_with fail
                  go_ret
                  exact ⟨rfl, HB9.out.2.2.2⟩
              · have q0 := text_zeros ((W6.alloc zeroRow).drew) W6.heap.size hzM
                go_simp
                refine hK _ _ ?_
                clear hK K q0
                refine wpAnyIn_ready (rs := [13]) (by kernel_rfl) (by simp) ?_
                refine BigFrame.allReadyIn_want rfl rfl (fun K hK => ?_) (AllReadyIn.nil)
                have q0 := HCZ.out _ hbM
                go_simp
                refine hK _ _ ?_
                clear hK K q0
                refine wpAnyIn_ready (rs := [14]) (by kernel_rfl) (by simp) ?_
                refine BigFrame.allReadyIn_want rfl rfl (fun K hK => ?_) (AllReadyIn.nil)
                go_simp
                refine ⟨trivial, (callsIn_wide.2 (HSZ.out _ hbM)).mono ?_⟩
                rintro e V ⟨rfl, hV⟩
                have hbV := below_step hbM hV
                refine hK _ _ ?_
                clear hK K
                have hzV := (hV.block _ (Array.getElem?_eq_some_iff.1 hzM).1).trans hzM
                refine wpAnyIn_ready (rs := [17]) (by kernel_rfl) (by simp) ?_
                refine BigFrame.allReadyIn_want rfl rfl (fun K hK => ?_) (AllReadyIn.nil)
                go_simp
                refine hK _ _ ?_
                clear hK K
                refine wpAnyIn_ready (rs := [18]) (by kernel_rfl) (by simp) ?_
                refine BigFrame.allReadyIn_want rfl rfl (fun K hK => ?_) (AllReadyIn.nil)
                go_simp
                refine hK _ _ ?_
                clear hK K
                refine wpAnyIn_ready (rs := [19]) (by kernel_rfl) (by simp) ?_
                refine BigFrame.allReadyIn_want rfl rfl (fun K hK => ?_) (AllReadyIn.nil)
                go_simp
                refine hK _ _ ?_
                clear hK K
                refine wpAnyIn_done (by kernel_rfl) ?_ _
                go_wp2_with (go_at_call 32; refine (CA.out _ hbV).mono ?_; rintro e w9 ⟨rfl, hb9⟩)
                have HB9 := Lib.hid (H6.out.step (below_step hbV hb9))
                clear hb9
                go_wp2_with fail
                go_ret
                exact ⟨rfl, HB9.out.2.2.2⟩
          | false =>
            go_wp2_with fail
            refine (wpIn_wide (n := 6)).1 ?_
            refine wpIn_region_any (by kernel_rfl) ?_
            change wpAnyIn _ _ _ _ _ _ _ _ _ W6.drew
            refine wpAnyIn_take (i := 0) (oi := { dst := some 61, op := Op.move (Operand.tmp 6), type := 26, pos := "law.go:201", after := #[], guard := none }) (v := ?vby_0) rfl rfl (by kernel_rfl) (by kernel_rfl) (by kernel_rfl) (fun _ _ _ h => h) ⟨Or.inl ⟨by rfl, ?hyby_0⟩, fun _ => rfl⟩ ?restby_0
            case hyby_0 => intro w; go_simp; try with_reducible rfl
            simp only [Act.put, List.setIfInBounds_toArray, List.set_cons_zero, List.set_cons_succ]
            refine wpAnyIn_take (i := 1) (oi := { dst := some 62, op := Op.call { callee := Callee.builtin Builtin.len, args := #[Operand.tmp 61], argTypes := #[26] }, type := 3, pos := "law.go:201", after := #[{ on := 0, ground := Ground.data }], guard := none }) (v := ?vby_1) rfl rfl (by kernel_rfl) (by kernel_rfl) (by kernel_rfl) (fun _ _ _ h => h) ⟨Or.inl ⟨by rfl, ?hyby_1⟩, fun _ => rfl⟩ ?restby_1
            case hyby_1 => intro w; go_simp; try with_reducible rfl
            simp only [Act.put, List.setIfInBounds_toArray, List.set_cons_zero, List.set_cons_succ]
            refine wpAnyIn_take (i := 2) (oi := { dst := some 63, op := Op.move (Operand.tmp 8), type := 26, pos := "law.go:201", after := #[], guard := none }) (v := ?vby_2) rfl rfl (by kernel_rfl) (by kernel_rfl) (by kernel_rfl) (fun _ _ _ h => h) ⟨Or.inl ⟨by rfl, ?hyby_2⟩, fun _ => rfl⟩ ?restby_2
            case hyby_2 => intro w; go_simp; try with_reducible rfl
            simp only [Act.put, List.setIfInBounds_toArray, List.set_cons_zero, List.set_cons_succ]
            refine wpAnyIn_take (i := 3) (oi := { dst := some 64, op := Op.call { callee := Callee.builtin Builtin.len, args := #[Operand.tmp 63], argTypes := #[26] }, type := 3, pos := "law.go:201", after := #[{ on := 2, ground := Ground.data }], guard := none }) (v := ?vby_3) rfl rfl (by kernel_rfl) (by kernel_rfl) (by kernel_rfl) (fun _ _ _ h => h) ⟨Or.inl ⟨by rfl, ?hyby_3⟩, fun _ => rfl⟩ ?restby_3
            case hyby_3 => intro w; go_simp; try with_reducible rfl
            simp only [Act.put, List.setIfInBounds_toArray, List.set_cons_zero, List.set_cons_succ]
            refine wpAnyIn_take (i := 4) (oi := { dst := some 65, op := Op.binOp BinOp.neq 3 (Operand.tmp 62) (Operand.tmp 64) 3, type := 4, pos := "law.go:201", after := #[{ on := 1, ground := Ground.data }, { on := 3, ground := Ground.data }], guard := none }) (v := ?vby_4) rfl rfl (by kernel_rfl) (by kernel_rfl) (by kernel_rfl) (fun _ _ _ h => h) ⟨Or.inl ⟨by rfl, ?hyby_4⟩, fun _ => rfl⟩ ?restby_4
            case hyby_4 => intro w; go_simp; try with_reducible rfl
            simp only [Act.put, List.setIfInBounds_toArray, List.set_cons_zero, List.set_cons_succ]
            refine wpAnyIn_take (i := 5) (oi := { dst := some 66, op := Op.move (Operand.tmp 65), type := 4, pos := "law.go:201", after := #[{ on := 4, ground := Ground.data }], guard := none }) (v := ?vby_5) rfl rfl (by kernel_rfl) (by kernel_rfl) (by kernel_rfl) (fun _ _ _ h => h) ⟨Or.inl ⟨by rfl, ?hyby_5⟩, fun _ => rfl⟩ ?restby_5
            case hyby_5 => intro w; go_simp; try with_reducible rfl
            simp only [Act.put, List.setIfInBounds_toArray, List.set_cons_zero, List.set_cons_succ]
            refine wpAnyIn_take (i := 6) (oi := { dst := some 67, op := Op.move (Operand.tmp 11), type := 26, pos := "law.go:201", after := #[{ on := 5, ground := Ground.guard }], guard := some (5, true) }) (v := ?vby_6) rfl rfl (by kernel_rfl) (by kernel_rfl) (by kernel_rfl) (fun _ _ _ h => h) ⟨Or.inl ⟨by rfl, ?hyby_6⟩, fun _ => rfl⟩ ?restby_6
            case hyby_6 => intro w; go_simp; try with_reducible rfl
            simp only [Act.put, List.setIfInBounds_toArray, List.set_cons_zero, List.set_cons_succ]
            refine wpAnyIn_take (i := 7) (oi := { dst := some 68, op := Op.move (Operand.tmp 6), type := 26, pos := "law.go:201", after := #[{ on := 5, ground := Ground.guard }], guard := some (5, true) }) (v := ?vby_7) rfl rfl (by kernel_rfl) (by kernel_rfl) (by kernel_rfl) (fun _ _ _ h => h) ⟨Or.inl ⟨by rfl, ?hyby_7⟩, fun _ => rfl⟩ ?restby_7
            case hyby_7 => intro w; go_simp; try with_reducible rfl
            simp only [Act.put, List.setIfInBounds_toArray, List.set_cons_zero, List.set_cons_succ]
            refine wpAnyIn_take (i := 8) (oi := { dst := some 69, op := Op.call { callee := Callee.builtin Builtin.len, args := #[Operand.tmp 68], argTypes := #[26] }, type := 3, pos := "law.go:201", after := #[{ on := 7, ground := Ground.data }, { on := 5, ground := Ground.guard }], guard := some (5, true) }) (v := ?vby_8) rfl rfl (by kernel_rfl) (by kernel_rfl) (by kernel_rfl) (fun _ _ _ h => h) ⟨Or.inl ⟨by rfl, ?hyby_8⟩, fun _ => rfl⟩ ?restby_8
            case hyby_8 => intro w; go_simp; try with_reducible rfl
            simp only [Act.put, List.setIfInBounds_toArray, List.set_cons_zero, List.set_cons_succ]
            refine wpAnyIn_take (i := 9) (oi := { dst := some 70, op := Op.move (Operand.tmp 8), type := 26, pos := "law.go:201", after := #[{ on := 5, ground := Ground.guard }], guard := some (5, true) }) (v := ?vby_9) rfl rfl (by kernel_rfl) (by kernel_rfl) (by kernel_rfl) (fun _ _ _ h => h) ⟨Or.inl ⟨by rfl, ?hyby_9⟩, fun _ => rfl⟩ ?restby_9
            case hyby_9 => intro w; go_simp; try with_reducible rfl
            simp only [Act.put, List.setIfInBounds_toArray, List.set_cons_zero, List.set_cons_succ]
            refine wpAnyIn_take (i := 10) (oi := { dst := some 71, op := Op.call { callee := Callee.builtin Builtin.len, args := #[Operand.tmp 70], argTypes := #[26] }, type := 3, pos := "law.go:201", after := #[{ on := 9, ground := Ground.data }, { on := 5, ground := Ground.guard }], guard := some (5, true) }) (v := ?vby_10) rfl rfl (by kernel_rfl) (by kernel_rfl) (by kernel_rfl) (fun _ _ _ h => h) ⟨Or.inl ⟨by rfl, ?hyby_10⟩, fun _ => rfl⟩ ?restby_10
            case hyby_10 => intro w; go_simp; try with_reducible rfl
            simp only [Act.put, List.setIfInBounds_toArray, List.set_cons_zero, List.set_cons_succ]
            refine wpAnyIn_take (i := 11) (oi := { dst := some 72, op := Op.call { callee := Callee.builtin Builtin.min, args := #[Operand.tmp 69, Operand.tmp 71], argTypes := #[3, 3] }, type := 3, pos := "law.go:201", after := #[{ on := 8, ground := Ground.data }, { on := 10, ground := Ground.data }, { on := 5, ground := Ground.guard }], guard := some (5, true) }) (v := ?vby_11) rfl rfl (by kernel_rfl) (by kernel_rfl) (by kernel_rfl) (fun _ _ _ h => h) ⟨Or.inl ⟨by rfl, ?hyby_11⟩, fun _ => rfl⟩ ?restby_11
            case hyby_11 => intro w; go_simp; try with_reducible rfl
            simp only [Act.put, List.setIfInBounds_toArray, List.set_cons_zero, List.set_cons_succ]
            refine wpAnyIn_take (i := 12) (oi := { dst := some 73, op := Op.indexAddr 26 (Operand.tmp 67) (Operand.tmp 72), type := 0, pos := "law.go:201", after := #[{ on := 6, ground := Ground.data }, { on := 11, ground := Ground.data }, { on := 5, ground := Ground.guard }], guard := some (5, true) }) (v := ?vby_12) rfl rfl (by kernel_rfl) (by kernel_rfl) (by kernel_rfl) (fun _ _ _ h => h) ⟨Or.inl ⟨by rfl, ?hyby_12⟩, fun _ => rfl⟩ ?restby_12
            case hyby_12 => intro w; go_simp; try with_reducible rfl
            simp only [Act.put, List.setIfInBounds_toArray, List.set_cons_zero, List.set_cons_succ]
            refine wpAnyIn_ready (rs := [13, 15]) (by kernel_rfl) (by simp) ?_
            refine BigFrame.allReadyIn_want rfl rfl (fun K hK => ?_) (BigFrame.allReadyIn_want rfl rfl (fun K hK => ?_) (AllReadyIn.nil))
            · have q0 := HCZ.out _ hbd0
              go_simp
              refine hK _ _ ?_
              clear hK K q0
              refine wpAnyIn_ready (rs := [14, 15]) (by kernel_rfl) (by simp) ?_
              refine BigFrame.allReadyIn_want rfl rfl (fun K hK => ?_) (BigFrame.allReadyIn_want rfl rfl (fun K hK => ?_) (AllReadyIn.nil))
              · go_simp
                refine ⟨trivial, (callsIn_wide.2 (HSZ.out _ hbd0)).mono ?_⟩
                rintro e V ⟨rfl, hV⟩
                have hbV := below_step hbd0 hV
                refine hK _ _ ?_
                clear hK K
                refine wpAnyIn_ready (rs := [15]) (by kernel_rfl) (by simp) ?_
                refine BigFrame.allReadyIn_want rfl rfl (fun K hK => ?_) (AllReadyIn.nil)
                have q0 := make_zeros V
                go_simp
                refine hK _ _ ?_
                clear hK K q0
                have hbM : Below W6.heap.size W6 (V.alloc zeroRow) := hbV.alloc hbV.size _
                have hzM : (V.alloc zeroRow).heap[V.heap.size]? = some zeroRow := heap_alloc_new V _
                refine wpAnyIn_ready (rs := [16]) (by kernel_rfl) (by simp) ?_
                refine BigFrame.allReadyIn_want rfl rfl (fun K hK => ?_) (AllReadyIn.nil)
                have q0 := text_zeros (V.alloc zeroRow) V.heap.size hzM
                go_simp
                refine hK _ _ ?_
                clear hK K q0
                refine wpAnyIn_ready (rs := [17]) (by kernel_rfl) (by simp) ?_
                refine BigFrame.allReadyIn_want rfl rfl (fun K hK => ?_) (AllReadyIn.nil)
                go_simp
                refine hK _ _ ?_
                clear hK K
                refine wpAnyIn_ready (rs := [18]) (by kernel_rfl) (by simp) ?_
                refine BigFrame.allReadyIn_want rfl rfl (fun K hK => ?_) (AllReadyIn.nil)
                go_simp
                refine hK _ _ ?_
                clear hK K
                refine wpAnyIn_ready (rs := [19]) (by kernel_rfl) (by simp) ?_
                refine BigFrame.allReadyIn_want rfl rfl (fun K hK => ?_) (AllReadyIn.nil)
                go_simp
                refine hK _ _ ?_
                clear hK K
                refine wpAnyIn_done (by kernel_rfl) ?_ _
                go_wp2_with (go_at_call 32; refine (CA.out _ hbM).mono ?_; rintro e w9 ⟨rfl, hb9⟩)
                have HB9 := Lib.hid (H6.out.step (below_step hbM hb9))
                clear hb9
                go_wp2_with fail
                go_ret
                exact ⟨rfl, HB9.out.2.2.2⟩
              · have q0 := make_zeros W6.drew
                go_simp
                refine hK _ _ ?_
                clear hK K q0
                have hbM : Below W6.heap.size W6 ((W6.alloc zeroRow).drew) := ((Below.refl _ _).alloc (Nat.le_refl _) _).drew
                have hzM : ((W6.alloc zeroRow).drew).heap[W6.heap.size]? = some zeroRow := heap_alloc_new W6 _
                refine wpAnyIn_ready (rs := [14, 16]) (by kernel_rfl) (by simp) ?_
                refine BigFrame.allReadyIn_want rfl rfl (fun K hK => ?_) (BigFrame.allReadyIn_want rfl rfl (fun K hK => ?_) (AllReadyIn.nil))
                · go_simp
                  refine ⟨trivial, (callsIn_wide.2 (HSZ.out _ hbM)).mono ?_⟩
                  rintro e V ⟨rfl, hV⟩
                  have hbV := below_step hbM hV
                  refine hK _ _ ?_
                  clear hK K
                  have hzV := (hV.block _ (Array.getElem?_eq_some_iff.1 hzM).1).trans hzM
                  refine wpAnyIn_ready (rs := [16]) (by kernel_rfl) (by simp) ?_
                  refine BigFrame.allReadyIn_want rfl rfl (fun K hK => ?_) (AllReadyIn.nil)
                  have q0 := text_zeros V W6.heap.size hzV
                  go_simp
                  refine hK _ _ ?_
                  clear hK K q0
                  refine wpAnyIn_ready (rs := [17]) (by kernel_rfl) (by simp) ?_
                  refine BigFrame.allReadyIn_want rfl rfl (fun K hK => ?_) (AllReadyIn.nil)
                  go_simp
                  refine hK _ _ ?_
                  clear hK K
                  refine wpAnyIn_ready (rs := [18]) (by kernel_rfl) (by simp) ?_
                  refine BigFrame.allReadyIn_want rfl rfl (fun K hK => ?_) (AllReadyIn.nil)
                  go_simp
                  refine hK _ _ ?_
                  clear hK K
                  refine wpAnyIn_ready (rs := [19]) (by kernel_rfl) (by simp) ?_
                  refine BigFrame.allReadyIn_want rfl rfl (fun K hK => ?_) (AllReadyIn.nil)
                  go_simp
                  refine hK _ _ ?_
                  clear hK K
                  refine wpAnyIn_done (by kernel_rfl) ?_ _
                  go_wp2_with (go_at_call 32; refine (CA.out _ hbV).mono ?_; rintro e w9 ⟨rfl, hb9⟩)
                  have HB9 := Lib.hid (H6.out.step (below_step hbV hb9))
                  clear hb9
                  go_wp2_with fail
                  go_ret
                  exact ⟨rfl, HB9.out.2.2.2⟩
                · have q0 := text_zeros ((W6.alloc zeroRow).drew) W6.heap.size hzM
                  go_simp
                  refine hK _ _ ?_
                  clear hK K q0
                  refine wpAnyIn_ready (rs := [14]) (by kernel_rfl) (by simp) ?_
                  refine BigFrame.allReadyIn_want rfl rfl (fun K hK => ?_) (AllReadyIn.nil)
                  go_simp
                  refine ⟨trivial, (callsIn_wide.2 (HSZ.out _ hbM)).mono ?_⟩
                  rintro e V ⟨rfl, hV⟩
                  have hbV := below_step hbM hV
                  refine hK _ _ ?_
                  clear hK K
                  have hzV := (hV.block _ (Array.getElem?_eq_some_iff.1 hzM).1).trans hzM
                  refine wpAnyIn_ready (rs := [17]) (by kernel_rfl) (by simp) ?_
                  refine BigFrame.allReadyIn_want rfl rfl (fun K hK => ?_) (AllReadyIn.nil)
                  go_simp
                  refine hK _ _ ?_
                  clear hK K
                  refine wpAnyIn_ready (rs := [18]) (by kernel_rfl) (by simp) ?_
                  refine BigFrame.allReadyIn_want rfl rfl (fun K hK => ?_) (AllReadyIn.nil)
                  go_simp
                  refine hK _ _ ?_
                  clear hK K
                  refine wpAnyIn_ready (rs := [19]) (by kernel_rfl) (by simp) ?_
                  refine BigFrame.allReadyIn_want rfl rfl (fun K hK => ?_) (AllReadyIn.nil)
                  go_simp
                  refine hK _ _ ?_
                  clear hK K
                  refine wpAnyIn_done (by kernel_rfl) ?_ _
                  go_wp2_with (go_at_call 32; refine (CA.out _ hbV).mono ?_; rintro e w9 ⟨rfl, hb9⟩)
                  have HB9 := Lib.hid (H6.out.step (below_step hbV hb9))
                  clear hb9
                  go_wp2_with fail
                  go_ret
                  exact ⟨rfl, HB9.out.2.2.2⟩
            · have q0 := make_zeros W6.drew
              go_simp
              refine hK _ _ ?_
              clear hK K q0
              have hbM : Below W6.heap.size W6 ((W6.alloc zeroRow).drew) := ((Below.refl _ _).alloc (Nat.le_refl _) _).drew
              have hzM : ((W6.alloc zeroRow).drew).heap[W6.heap.size]? = some zeroRow := heap_alloc_new W6 _
              refine wpAnyIn_ready (rs := [13, 16]) (by kernel_rfl) (by simp) ?_
              refine BigFrame.allReadyIn_want rfl rfl (fun K hK => ?_) (BigFrame.allReadyIn_want rfl rfl (fun K hK => ?_) (AllReadyIn.nil))
              · have q0 := HCZ.out _ hbM
                go_simp
                refine hK _ _ ?_
                clear hK K q0
                refine wpAnyIn_ready (rs := [14, 16]) (by kernel_rfl) (by simp) ?_
                refine BigFrame.allReadyIn_want rfl rfl (fun K hK => ?_) (BigFrame.allReadyIn_want rfl rfl (fun K hK => ?_) (AllReadyIn.nil))
                · go_simp
                  refine ⟨trivial, (callsIn_wide.2 (HSZ.out _ hbM)).mono ?_⟩
                  rintro e V ⟨rfl, hV⟩
                  have hbV := below_step hbM hV
                  refine hK _ _ ?_
                  clear hK K
                  have hzV := (hV.block _ (Array.getElem?_eq_some_iff.1 hzM).1).trans hzM
                  refine wpAnyIn_ready (rs := [16]) (by kernel_rfl) (by simp) ?_
                  refine BigFrame.allReadyIn_want rfl rfl (fun K hK => ?_) (AllReadyIn.nil)
                  have q0 := text_zeros V W6.heap.size hzV
                  go_simp
                  refine hK _ _ ?_
                  clear hK K q0
                  refine wpAnyIn_ready (rs := [17]) (by kernel_rfl) (by simp) ?_
                  refine BigFrame.allReadyIn_want rfl rfl (fun K hK => ?_) (AllReadyIn.nil)
                  go_simp
                  refine hK _ _ ?_
                  clear hK K
                  refine wpAnyIn_ready (rs := [18]) (by kernel_rfl) (by simp) ?_
                  refine BigFrame.allReadyIn_want rfl rfl (fun K hK => ?_) (AllReadyIn.nil)
                  go_simp
                  refine hK _ _ ?_
                  clear hK K
                  refine wpAnyIn_ready (rs := [19]) (by kernel_rfl) (by simp) ?_
                  refine BigFrame.allReadyIn_want rfl rfl (fun K hK => ?_) (AllReadyIn.nil)
                  go_simp
                  refine hK _ _ ?_
                  clear hK K
                  refine wpAnyIn_done (by kernel_rfl) ?_ _
                  go_wp2_with (go_at_call 32; refine (CA.out _ hbV).mono ?_; rintro e w9 ⟨rfl, hb9⟩)
                  have HB9 := Lib.hid (H6.out.step (below_step hbV hb9))
                  clear hb9
                  go_wp2_with fail
                  go_ret
                  exact ⟨rfl, HB9.out.2.2.2⟩
                · have q0 := text_zeros ((W6.alloc zeroRow).drew) W6.heap.size hzM
                  go_simp
                  refine hK _ _ ?_
                  clear hK K q0
                  refine wpAnyIn_ready (rs := [14]) (by kernel_rfl) (by simp) ?_
                  refine BigFrame.allReadyIn_want rfl rfl (fun K hK => ?_) (AllReadyIn.nil)
                  go_simp
                  refine ⟨trivial, (callsIn_wide.2 (HSZ.out _ hbM)).mono ?_⟩
                  rintro e V ⟨rfl, hV⟩
                  have hbV := below_step hbM hV
                  refine hK _ _ ?_
                  clear hK K
                  have hzV := (hV.block _ (Array.getElem?_eq_some_iff.1 hzM).1).trans hzM
                  refine wpAnyIn_ready (rs := [17]) (by kernel_rfl) (by simp) ?_
                  refine BigFrame.allReadyIn_want rfl rfl (fun K hK => ?_) (AllReadyIn.nil)
                  go_simp
                  refine hK _ _ ?_
                  clear hK K
                  refine wpAnyIn_ready (rs := [18]) (by kernel_rfl) (by simp) ?_
                  refine BigFrame.allReadyIn_want rfl rfl (fun K hK => ?_) (AllReadyIn.nil)
                  go_simp
                  refine hK _ _ ?_
                  clear hK K
                  refine wpAnyIn_ready (rs := [19]) (by kernel_rfl) (by simp) ?_
                  refine BigFrame.allReadyIn_want rfl rfl (fun K hK => ?_) (AllReadyIn.nil)
                  go_simp
                  refine hK _ _ ?_
                  clear hK K
                  refine wpAnyIn_done (by kernel_rfl) ?_ _
                  go_wp2_with (go_at_call 32; refine (CA.out _ hbV).mono ?_; rintro e w9 ⟨rfl, hb9⟩)
                  have HB9 := Lib.hid (H6.out.step (below_step hbV hb9))
                  clear hb9
                  go_wp2_with fail
                  go_ret
                  exact ⟨rfl, HB9.out.2.2.2⟩
              · have q0 := text_zeros ((W6.alloc zeroRow).drew) W6.heap.size hzM
                go_simp
                refine hK _ _ ?_
                clear hK K q0
                refine wpAnyIn_ready (rs := [13]) (by kernel_rfl) (by simp) ?_
                refine BigFrame.allReadyIn_want rfl rfl (fun K hK => ?_) (AllReadyIn.nil)
                have q0 := HCZ.out _ hbM
                go_simp
                refine hK _ _ ?_
                clear hK K q0
                refine wpAnyIn_ready (rs := [14]) (by kernel_rfl) (by simp) ?_
                refine BigFrame.allReadyIn_want rfl rfl (fun K hK => ?_) (AllReadyIn.nil)
                go_simp
                refine ⟨trivial, (callsIn_wide.2 (HSZ.out _ hbM)).mono ?_⟩
                rintro e V ⟨rfl, hV⟩
                have hbV := below_step hbM hV
                refine hK _ _ ?_
                clear hK K
                have hzV := (hV.block _ (Array.getElem?_eq_some_iff.1 hzM).1).trans hzM
                refine wpAnyIn_ready (rs := [17]) (by kernel_rfl) (by simp) ?_
                refine BigFrame.allReadyIn_want rfl rfl (fun K hK => ?_) (AllReadyIn.nil)
                go_simp
                refine hK _ _ ?_
                clear hK K
                refine wpAnyIn_ready (rs := [18]) (by kernel_rfl) (by simp) ?_
                refine BigFrame.allReadyIn_want rfl rfl (fun K hK => ?_) (AllReadyIn.nil)
                go_simp
                refine hK _ _ ?_
                clear hK K
                refine wpAnyIn_ready (rs := [19]) (by kernel_rfl) (by simp) ?_
                refine BigFrame.allReadyIn_want rfl rfl (fun K hK => ?_) (AllReadyIn.nil)
                go_simp
                refine hK _ _ ?_
                clear hK K
                refine wpAnyIn_done (by kernel_rfl) ?_ _
                go_wp2_with (go_at_call 32; refine (CA.out _ hbV).mono ?_; rintro e w9 ⟨rfl, hb9⟩)
                have HB9 := Lib.hid (H6.out.step (below_step hbV hb9))
                clear hb9
                go_wp2_with fail
                go_ret
                exact ⟨rfl, HB9.out.2.2.2⟩
        · have CA := Lib.hid (fun V (hb : Below W6.heap.size W6 V) => collide_all dig X Y _ _ d1 d2 V (H6.out.1.below hb) (H6.out.2.1.below hb) (H6.out.2.2.1.below hb) HZSX.out HZSY.out)
          clear hmk htz hcz0 hcz1 hbd1 HIDX
          go_wp2_with fail
          refine (wpIn_wide (n := 6)).1 ?_
          refine wpIn_region_any (by kernel_rfl) ?_
          change wpAnyIn _ _ _ _ _ _ _ _ _ W6.drew
          refine wpAnyIn_take (i := 0) (oi := { dst := some 61, op := Op.move (Operand.tmp 6), type := 26, pos := "law.go:201", after := #[], guard := none }) (v := ?vcy_0) rfl rfl (by kernel_rfl) (by kernel_rfl) (by kernel_rfl) (fun _ _ _ h => h) ⟨Or.inl ⟨by rfl, ?hycy_0⟩, fun _ => rfl⟩ ?restcy_0
          case hycy_0 => intro w; go_simp; try with_reducible rfl
          simp only [Act.put, List.setIfInBounds_toArray, List.set_cons_zero, List.set_cons_succ]
          refine wpAnyIn_take (i := 1) (oi := { dst := some 62, op := Op.call { callee := Callee.builtin Builtin.len, args := #[Operand.tmp 61], argTypes := #[26] }, type := 3, pos := "law.go:201", after := #[{ on := 0, ground := Ground.data }], guard := none }) (v := ?vcy_1) rfl rfl (by kernel_rfl) (by kernel_rfl) (by kernel_rfl) (fun _ _ _ h => h) ⟨Or.inl ⟨by rfl, ?hycy_1⟩, fun _ => rfl⟩ ?restcy_1
          case hycy_1 => intro w; go_simp; try with_reducible rfl
          simp only [Act.put, List.setIfInBounds_toArray, List.set_cons_zero, List.set_cons_succ]
          refine wpAnyIn_take (i := 2) (oi := { dst := some 63, op := Op.move (Operand.tmp 8), type := 26, pos := "law.go:201", after := #[], guard := none }) (v := ?vcy_2) rfl rfl (by kernel_rfl) (by kernel_rfl) (by kernel_rfl) (fun _ _ _ h => h) ⟨Or.inl ⟨by rfl, ?hycy_2⟩, fun _ => rfl⟩ ?restcy_2
          case hycy_2 => intro w; go_simp; try with_reducible rfl
          simp only [Act.put, List.setIfInBounds_toArray, List.set_cons_zero, List.set_cons_succ]
          refine wpAnyIn_take (i := 3) (oi := { dst := some 64, op := Op.call { callee := Callee.builtin Builtin.len, args := #[Operand.tmp 63], argTypes := #[26] }, type := 3, pos := "law.go:201", after := #[{ on := 2, ground := Ground.data }], guard := none }) (v := ?vcy_3) rfl rfl (by kernel_rfl) (by kernel_rfl) (by kernel_rfl) (fun _ _ _ h => h) ⟨Or.inl ⟨by rfl, ?hycy_3⟩, fun _ => rfl⟩ ?restcy_3
          case hycy_3 => intro w; go_simp; try with_reducible rfl
          simp only [Act.put, List.setIfInBounds_toArray, List.set_cons_zero, List.set_cons_succ]
          refine wpAnyIn_take (i := 4) (oi := { dst := some 65, op := Op.binOp BinOp.neq 3 (Operand.tmp 62) (Operand.tmp 64) 3, type := 4, pos := "law.go:201", after := #[{ on := 1, ground := Ground.data }, { on := 3, ground := Ground.data }], guard := none }) (v := ?vcy_4) rfl rfl (by kernel_rfl) (by kernel_rfl) (by kernel_rfl) (fun _ _ _ h => h) ⟨Or.inl ⟨by rfl, ?hycy_4⟩, fun _ => rfl⟩ ?restcy_4
          case hycy_4 => intro w; go_simp; try with_reducible rfl
          simp only [Act.put, List.setIfInBounds_toArray, List.set_cons_zero, List.set_cons_succ]
          refine wpAnyIn_take (i := 5) (oi := { dst := some 66, op := Op.move (Operand.tmp 65), type := 4, pos := "law.go:201", after := #[{ on := 4, ground := Ground.data }], guard := none }) (v := ?vcy_5) rfl rfl (by kernel_rfl) (by kernel_rfl) (by kernel_rfl) (fun _ _ _ h => h) ⟨Or.inl ⟨by rfl, ?hycy_5⟩, fun _ => rfl⟩ ?restcy_5
          case hycy_5 => intro w; go_simp; try with_reducible rfl
          simp only [Act.put, List.setIfInBounds_toArray, List.set_cons_zero, List.set_cons_succ]
          refine wpAnyIn_take (i := 6) (oi := { dst := some 67, op := Op.move (Operand.tmp 11), type := 26, pos := "law.go:201", after := #[{ on := 5, ground := Ground.guard }], guard := some (5, true) }) (v := ?vcy_6) rfl rfl (by kernel_rfl) (by kernel_rfl) (by kernel_rfl) (fun _ _ _ h => h) ⟨Or.inl ⟨by rfl, ?hycy_6⟩, fun _ => rfl⟩ ?restcy_6
          case hycy_6 => intro w; go_simp; try with_reducible rfl
          simp only [Act.put, List.setIfInBounds_toArray, List.set_cons_zero, List.set_cons_succ]
          refine wpAnyIn_take (i := 7) (oi := { dst := some 68, op := Op.move (Operand.tmp 6), type := 26, pos := "law.go:201", after := #[{ on := 5, ground := Ground.guard }], guard := some (5, true) }) (v := ?vcy_7) rfl rfl (by kernel_rfl) (by kernel_rfl) (by kernel_rfl) (fun _ _ _ h => h) ⟨Or.inl ⟨by rfl, ?hycy_7⟩, fun _ => rfl⟩ ?restcy_7
          case hycy_7 => intro w; go_simp; try with_reducible rfl
          simp only [Act.put, List.setIfInBounds_toArray, List.set_cons_zero, List.set_cons_succ]
          refine wpAnyIn_take (i := 8) (oi := { dst := some 69, op := Op.call { callee := Callee.builtin Builtin.len, args := #[Operand.tmp 68], argTypes := #[26] }, type := 3, pos := "law.go:201", after := #[{ on := 7, ground := Ground.data }, { on := 5, ground := Ground.guard }], guard := some (5, true) }) (v := ?vcy_8) rfl rfl (by kernel_rfl) (by kernel_rfl) (by kernel_rfl) (fun _ _ _ h => h) ⟨Or.inl ⟨by rfl, ?hycy_8⟩, fun _ => rfl⟩ ?restcy_8
          case hycy_8 => intro w; go_simp; try with_reducible rfl
          simp only [Act.put, List.setIfInBounds_toArray, List.set_cons_zero, List.set_cons_succ]
          refine wpAnyIn_take (i := 9) (oi := { dst := some 70, op := Op.move (Operand.tmp 8), type := 26, pos := "law.go:201", after := #[{ on := 5, ground := Ground.guard }], guard := some (5, true) }) (v := ?vcy_9) rfl rfl (by kernel_rfl) (by kernel_rfl) (by kernel_rfl) (fun _ _ _ h => h) ⟨Or.inl ⟨by rfl, ?hycy_9⟩, fun _ => rfl⟩ ?restcy_9
          case hycy_9 => intro w; go_simp; try with_reducible rfl
          simp only [Act.put, List.setIfInBounds_toArray, List.set_cons_zero, List.set_cons_succ]
          refine wpAnyIn_take (i := 10) (oi := { dst := some 71, op := Op.call { callee := Callee.builtin Builtin.len, args := #[Operand.tmp 70], argTypes := #[26] }, type := 3, pos := "law.go:201", after := #[{ on := 9, ground := Ground.data }, { on := 5, ground := Ground.guard }], guard := some (5, true) }) (v := ?vcy_10) rfl rfl (by kernel_rfl) (by kernel_rfl) (by kernel_rfl) (fun _ _ _ h => h) ⟨Or.inl ⟨by rfl, ?hycy_10⟩, fun _ => rfl⟩ ?restcy_10
          case hycy_10 => intro w; go_simp; try with_reducible rfl
          simp only [Act.put, List.setIfInBounds_toArray, List.set_cons_zero, List.set_cons_succ]
          refine wpAnyIn_take (i := 11) (oi := { dst := some 72, op := Op.call { callee := Callee.builtin Builtin.min, args := #[Operand.tmp 69, Operand.tmp 71], argTypes := #[3, 3] }, type := 3, pos := "law.go:201", after := #[{ on := 8, ground := Ground.data }, { on := 10, ground := Ground.data }, { on := 5, ground := Ground.guard }], guard := some (5, true) }) (v := ?vcy_11) rfl rfl (by kernel_rfl) (by kernel_rfl) (by kernel_rfl) (fun _ _ _ h => h) ⟨Or.inl ⟨by rfl, ?hycy_11⟩, fun _ => rfl⟩ ?restcy_11
          case hycy_11 => intro w; go_simp; try with_reducible rfl
          simp only [Act.put, List.setIfInBounds_toArray, List.set_cons_zero, List.set_cons_succ]
          refine wpAnyIn_take (i := 12) (oi := { dst := some 73, op := Op.indexAddr 26 (Operand.tmp 67) (Operand.tmp 72), type := 0, pos := "law.go:201", after := #[{ on := 6, ground := Ground.data }, { on := 11, ground := Ground.data }, { on := 5, ground := Ground.guard }], guard := some (5, true) }) (v := ?vcy_12) rfl rfl (by kernel_rfl) (by kernel_rfl) (by kernel_rfl) (fun _ _ _ h => h) ⟨Or.inl ⟨by rfl, ?hycy_12⟩, fun _ => rfl⟩ ?restcy_12
          case hycy_12 => intro w; go_simp; try with_reducible rfl
          simp only [Act.put, List.setIfInBounds_toArray, List.set_cons_zero, List.set_cons_succ]
          refine wpAnyIn_ready (rs := [13, 15]) (by kernel_rfl) (by simp) ?_
          refine BigFrame.allReadyIn_want rfl rfl (fun K hK => ?_) (BigFrame.allReadyIn_want rfl rfl (fun K hK => ?_) (AllReadyIn.nil))
          · have q0 := HCZ.out _ hbd0
            go_simp
            refine hK _ _ ?_
            clear hK K q0
            refine wpAnyIn_ready (rs := [14, 15]) (by kernel_rfl) (by simp) ?_
            refine BigFrame.allReadyIn_want rfl rfl (fun K hK => ?_) (BigFrame.allReadyIn_want rfl rfl (fun K hK => ?_) (AllReadyIn.nil))
            · go_simp
              refine ⟨trivial, (callsIn_wide.2 (HSZ.out _ hbd0)).mono ?_⟩
              rintro e V ⟨rfl, hV⟩
              have hbV := below_step hbd0 hV
              refine hK _ _ ?_
              clear hK K
              refine wpAnyIn_ready (rs := [15]) (by kernel_rfl) (by simp) ?_
              refine BigFrame.allReadyIn_want rfl rfl (fun K hK => ?_) (AllReadyIn.nil)
              have q0 := make_zeros V
              go_simp
              refine hK _ _ ?_
              clear hK K q0
              have hbM : Below W6.heap.size W6 (V.alloc zeroRow) := hbV.alloc hbV.size _
              have hzM : (V.alloc zeroRow).heap[V.heap.size]? = some zeroRow := heap_alloc_new V _
              refine wpAnyIn_ready (rs := [16]) (by kernel_rfl) (by simp) ?_
              refine BigFrame.allReadyIn_want rfl rfl (fun K hK => ?_) (AllReadyIn.nil)
              have q0 := text_zeros (V.alloc zeroRow) V.heap.size hzM
              go_simp
              refine hK _ _ ?_
              clear hK K q0
              refine wpAnyIn_ready (rs := [17]) (by kernel_rfl) (by simp) ?_
              refine BigFrame.allReadyIn_want rfl rfl (fun K hK => ?_) (AllReadyIn.nil)
              go_simp
              refine hK _ _ ?_
              clear hK K
              refine wpAnyIn_ready (rs := [18]) (by kernel_rfl) (by simp) ?_
              refine BigFrame.allReadyIn_want rfl rfl (fun K hK => ?_) (AllReadyIn.nil)
              go_simp
              refine hK _ _ ?_
              clear hK K
              refine wpAnyIn_ready (rs := [19]) (by kernel_rfl) (by simp) ?_
              refine BigFrame.allReadyIn_want rfl rfl (fun K hK => ?_) (AllReadyIn.nil)
              go_simp
              refine hK _ _ ?_
              clear hK K
              refine wpAnyIn_done (by kernel_rfl) ?_ _
              go_wp2_with (go_at_call 32; refine (CA.out _ hbM).mono ?_; rintro e w9 ⟨⟨q9, rfl⟩, hb9⟩)
              all_goals (have HB9 := Lib.hid (H6.out.step (below_step hbM hb9)); clear hb9; go_ret; first | exact ⟨rfl, HB9.out.2.2.2⟩ | (subst_vars; exact ⟨rfl, HB9.out.2.2.2⟩))
            · have q0 := make_zeros W6.drew
              go_simp
              refine hK _ _ ?_
              clear hK K q0
              have hbM : Below W6.heap.size W6 ((W6.alloc zeroRow).drew) := ((Below.refl _ _).alloc (Nat.le_refl _) _).drew
              have hzM : ((W6.alloc zeroRow).drew).heap[W6.heap.size]? = some zeroRow := heap_alloc_new W6 _
              refine wpAnyIn_ready (rs := [14, 16]) (by kernel_rfl) (by simp) ?_
              refine BigFrame.allReadyIn_want rfl rfl (fun K hK => ?_) (BigFrame.allReadyIn_want rfl rfl (fun K hK => ?_) (AllReadyIn.nil))
              · go_simp
                refine ⟨trivial, (callsIn_wide.2 (HSZ.out _ hbM)).mono ?_⟩
                rintro e V ⟨rfl, hV⟩
                have hbV := below_step hbM hV
                refine hK _ _ ?_
                clear hK K
                have hzV := (hV.block _ (Array.getElem?_eq_some_iff.1 hzM).1).trans hzM
                refine wpAnyIn_ready (rs := [16]) (by kernel_rfl) (by simp) ?_
                refine BigFrame.allReadyIn_want rfl rfl (fun K hK => ?_) (AllReadyIn.nil)
                have q0 := text_zeros V W6.heap.size hzV
                go_simp
                refine hK _ _ ?_
                clear hK K q0
                refine wpAnyIn_ready (rs := [17]) (by kernel_rfl) (by simp) ?_
                refine BigFrame.allReadyIn_want rfl rfl (fun K hK => ?_) (AllReadyIn.nil)
                go_simp
                refine hK _ _ ?_
                clear hK K
                refine wpAnyIn_ready (rs := [18]) (by kernel_rfl) (by simp) ?_
                refine BigFrame.allReadyIn_want rfl rfl (fun K hK => ?_) (AllReadyIn.nil)
                go_simp
                refine hK _ _ ?_
                clear hK K
                refine wpAnyIn_ready (rs := [19]) (by kernel_rfl) (by simp) ?_
                refine BigFrame.allReadyIn_want rfl rfl (fun K hK => ?_) (AllReadyIn.nil)
                go_simp
                refine hK _ _ ?_
                clear hK K
                refine wpAnyIn_done (by kernel_rfl) ?_ _
                go_wp2_with (go_at_call 32; refine (CA.out _ hbV).mono ?_; rintro e w9 ⟨⟨q9, rfl⟩, hb9⟩)
                all_goals (have HB9 := Lib.hid (H6.out.step (below_step hbV hb9)); clear hb9; go_ret; first | exact ⟨rfl, HB9.out.2.2.2⟩ | (subst_vars; exact ⟨rfl, HB9.out.2.2.2⟩))
              · have q0 := text_zeros ((W6.alloc zeroRow).drew) W6.heap.size hzM
                go_simp
                refine hK _ _ ?_
                clear hK K q0
                refine wpAnyIn_ready (rs := [14]) (by kernel_rfl) (by simp) ?_
                refine BigFrame.allReadyIn_want rfl rfl (fun K hK => ?_) (AllReadyIn.nil)
                go_simp
                refine ⟨trivial, (callsIn_wide.2 (HSZ.out _ hbM)).mono ?_⟩
                rintro e V ⟨rfl, hV⟩
                have hbV := below_step hbM hV
                refine hK _ _ ?_
                clear hK K
                have hzV := (hV.block _ (Array.getElem?_eq_some_iff.1 hzM).1).trans hzM
                refine wpAnyIn_ready (rs := [17]) (by kernel_rfl) (by simp) ?_
                refine BigFrame.allReadyIn_want rfl rfl (fun K hK => ?_) (AllReadyIn.nil)
                go_simp
                refine hK _ _ ?_
                clear hK K
                refine wpAnyIn_ready (rs := [18]) (by kernel_rfl) (by simp) ?_
                refine BigFrame.allReadyIn_want rfl rfl (fun K hK => ?_) (AllReadyIn.nil)
                go_simp
                refine hK _ _ ?_
                clear hK K
                refine wpAnyIn_ready (rs := [19]) (by kernel_rfl) (by simp) ?_
                refine BigFrame.allReadyIn_want rfl rfl (fun K hK => ?_) (AllReadyIn.nil)
                go_simp
                refine hK _ _ ?_
                clear hK K
                refine wpAnyIn_done (by kernel_rfl) ?_ _
                go_wp2_with (go_at_call 32; refine (CA.out _ hbV).mono ?_; rintro e w9 ⟨⟨q9, rfl⟩, hb9⟩)
                all_goals (have HB9 := Lib.hid (H6.out.step (below_step hbV hb9)); clear hb9; go_ret; first | exact ⟨rfl, HB9.out.2.2.2⟩ | (subst_vars; exact ⟨rfl, HB9.out.2.2.2⟩))
          · have q0 := make_zeros W6.drew
            go_simp
            refine hK _ _ ?_
            clear hK K q0
            have hbM : Below W6.heap.size W6 ((W6.alloc zeroRow).drew) := ((Below.refl _ _).alloc (Nat.le_refl _) _).drew
            have hzM : ((W6.alloc zeroRow).drew).heap[W6.heap.size]? = some zeroRow := heap_alloc_new W6 _
            refine wpAnyIn_ready (rs := [13, 16]) (by kernel_rfl) (by simp) ?_
            refine BigFrame.allReadyIn_want rfl rfl (fun K hK => ?_) (BigFrame.allReadyIn_want rfl rfl (fun K hK => ?_) (AllReadyIn.nil))
            · have q0 := HCZ.out _ hbM
              go_simp
              refine hK _ _ ?_
              clear hK K q0
              refine wpAnyIn_ready (rs := [14, 16]) (by kernel_rfl) (by simp) ?_
              refine BigFrame.allReadyIn_want rfl rfl (fun K hK => ?_) (BigFrame.allReadyIn_want rfl rfl (fun K hK => ?_) (AllReadyIn.nil))
              · go_simp
                refine ⟨trivial, (callsIn_wide.2 (HSZ.out _ hbM)).mono ?_⟩
                rintro e V ⟨rfl, hV⟩
                have hbV := below_step hbM hV
                refine hK _ _ ?_
                clear hK K
                have hzV := (hV.block _ (Array.getElem?_eq_some_iff.1 hzM).1).trans hzM
                refine wpAnyIn_ready (rs := [16]) (by kernel_rfl) (by simp) ?_
                refine BigFrame.allReadyIn_want rfl rfl (fun K hK => ?_) (AllReadyIn.nil)
                have q0 := text_zeros V W6.heap.size hzV
                go_simp
                refine hK _ _ ?_
                clear hK K q0
                refine wpAnyIn_ready (rs := [17]) (by kernel_rfl) (by simp) ?_
                refine BigFrame.allReadyIn_want rfl rfl (fun K hK => ?_) (AllReadyIn.nil)
                go_simp
                refine hK _ _ ?_
                clear hK K
                refine wpAnyIn_ready (rs := [18]) (by kernel_rfl) (by simp) ?_
                refine BigFrame.allReadyIn_want rfl rfl (fun K hK => ?_) (AllReadyIn.nil)
                go_simp
                refine hK _ _ ?_
                clear hK K
                refine wpAnyIn_ready (rs := [19]) (by kernel_rfl) (by simp) ?_
                refine BigFrame.allReadyIn_want rfl rfl (fun K hK => ?_) (AllReadyIn.nil)
                go_simp
                refine hK _ _ ?_
                clear hK K
                refine wpAnyIn_done (by kernel_rfl) ?_ _
                go_wp2_with (go_at_call 32; refine (CA.out _ hbV).mono ?_; rintro e w9 ⟨⟨q9, rfl⟩, hb9⟩)
                all_goals (have HB9 := Lib.hid (H6.out.step (below_step hbV hb9)); clear hb9; go_ret; first | exact ⟨rfl, HB9.out.2.2.2⟩ | (subst_vars; exact ⟨rfl, HB9.out.2.2.2⟩))
              · have q0 := text_zeros ((W6.alloc zeroRow).drew) W6.heap.size hzM
                go_simp
                refine hK _ _ ?_
                clear hK K q0
                refine wpAnyIn_ready (rs := [14]) (by kernel_rfl) (by simp) ?_
                refine BigFrame.allReadyIn_want rfl rfl (fun K hK => ?_) (AllReadyIn.nil)
                go_simp
                refine ⟨trivial, (callsIn_wide.2 (HSZ.out _ hbM)).mono ?_⟩
                rintro e V ⟨rfl, hV⟩
                have hbV := below_step hbM hV
                refine hK _ _ ?_
                clear hK K
                have hzV := (hV.block _ (Array.getElem?_eq_some_iff.1 hzM).1).trans hzM
                refine wpAnyIn_ready (rs := [17]) (by kernel_rfl) (by simp) ?_
                refine BigFrame.allReadyIn_want rfl rfl (fun K hK => ?_) (AllReadyIn.nil)
                go_simp
                refine hK _ _ ?_
                clear hK K
                refine wpAnyIn_ready (rs := [18]) (by kernel_rfl) (by simp) ?_
                refine BigFrame.allReadyIn_want rfl rfl (fun K hK => ?_) (AllReadyIn.nil)
                go_simp
                refine hK _ _ ?_
                clear hK K
                refine wpAnyIn_ready (rs := [19]) (by kernel_rfl) (by simp) ?_
                refine BigFrame.allReadyIn_want rfl rfl (fun K hK => ?_) (AllReadyIn.nil)
                go_simp
                refine hK _ _ ?_
                clear hK K
                refine wpAnyIn_done (by kernel_rfl) ?_ _
                go_wp2_with (go_at_call 32; refine (CA.out _ hbV).mono ?_; rintro e w9 ⟨⟨q9, rfl⟩, hb9⟩)
                all_goals (have HB9 := Lib.hid (H6.out.step (below_step hbV hb9)); clear hb9; go_ret; first | exact ⟨rfl, HB9.out.2.2.2⟩ | (subst_vars; exact ⟨rfl, HB9.out.2.2.2⟩))
            · have q0 := text_zeros ((W6.alloc zeroRow).drew) W6.heap.size hzM
              go_simp
              refine hK _ _ ?_
              clear hK K q0
              refine wpAnyIn_ready (rs := [13]) (by kernel_rfl) (by simp) ?_
              refine BigFrame.allReadyIn_want rfl rfl (fun K hK => ?_) (AllReadyIn.nil)
              have q0 := HCZ.out _ hbM
              go_simp
              refine hK _ _ ?_
              clear hK K q0
              refine wpAnyIn_ready (rs := [14]) (by kernel_rfl) (by simp) ?_
              refine BigFrame.allReadyIn_want rfl rfl (fun K hK => ?_) (AllReadyIn.nil)
              go_simp
              refine ⟨trivial, (callsIn_wide.2 (HSZ.out _ hbM)).mono ?_⟩
              rintro e V ⟨rfl, hV⟩
              have hbV := below_step hbM hV
              refine hK _ _ ?_
              clear hK K
              have hzV := (hV.block _ (Array.getElem?_eq_some_iff.1 hzM).1).trans hzM
              refine wpAnyIn_ready (rs := [17]) (by kernel_rfl) (by simp) ?_
              refine BigFrame.allReadyIn_want rfl rfl (fun K hK => ?_) (AllReadyIn.nil)
              go_simp
              refine hK _ _ ?_
              clear hK K
              refine wpAnyIn_ready (rs := [18]) (by kernel_rfl) (by simp) ?_
              refine BigFrame.allReadyIn_want rfl rfl (fun K hK => ?_) (AllReadyIn.nil)
              go_simp
              refine hK _ _ ?_
              clear hK K
              refine wpAnyIn_ready (rs := [19]) (by kernel_rfl) (by simp) ?_
              refine BigFrame.allReadyIn_want rfl rfl (fun K hK => ?_) (AllReadyIn.nil)
              go_simp
              refine hK _ _ ?_
              clear hK K
              refine wpAnyIn_done (by kernel_rfl) ?_ _
              go_wp2_with (go_at_call 32; refine (CA.out _ hbV).mono ?_; rintro e w9 ⟨⟨q9, rfl⟩, hb9⟩)
              all_goals (have HB9 := Lib.hid (H6.out.step (below_step hbV hb9)); clear hb9; go_ret; first | exact ⟨rfl, HB9.out.2.2.2⟩ | (subst_vars; exact ⟨rfl, HB9.out.2.2.2⟩))
    · have he : (h.toList == k.toList) = false := beq_eq_false_iff_ne.2 (fun e => hhk (toList_iff.1 e))
      have he' : ¬ h.toList = k.toList := fun e => hhk (toList_iff.1 e)
      clear hAB hhk
      go_wp2_with fail
      go_ret
      exact ⟨rfl, H6.out.2.2.2⟩
end Go.Proofs.YtmmhilonmbnenaaDoor
