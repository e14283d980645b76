/-
  The walk of DigestProofAccepted: it returns true for all arguments. The arm of a place that the list has is written by tools/l02_pa.py. Condition: the table of 64 words reads as the program's text lays it.
-/
import Derived.Test.YtbaggjhjkignkaaDoorProofAcc
namespace Go.Proofs.YtbaggjhjkignkaaDoor
open Go.RowKit Go.Shelf Tree

/-- A row of one string at a place of its own. -/
def OneCell (c : World) (q : Nat) (r : ByteArray) : Prop := q < c.heap.size ∧ ∀ j u, [Value.string r][j]? = some u → c.cell? ((⟨q, 0, none⟩ : Addr).add j) = some u
theorem OneCell.new (c : World) (r : ByteArray) : OneCell (c.alloc (.cells #[.string r] 9)) c.heap.size r := ⟨by rw [World.size_alloc]; omega, cell_one_new c (.string r) 9⟩
theorem OneCell.alloc {c : World} {q : Nat} {r : ByteArray} (h : OneCell c q r) (o : Obj) : OneCell (c.alloc o) q r :=
  ⟨by rw [World.size_alloc]; have := h.1; omega, fun j u hu => (((Below.refl c.heap.size c).alloc (Nat.le_refl _) o).cell (by rw [addr_block]; exact h.1)).trans (h.2 j u hu)⟩
theorem OneCell.grown {c c' : World} {q : Nat} {r : ByteArray} {row : Option Nat} (h : OneCell c q r) (hg : c.grownBy c' row) (hne : row ≠ some q) : OneCell c' q r :=
  ⟨Nat.lt_of_lt_of_le h.1 hg.size, fun j u hu => (hg.cell_far _ (by rw [addr_block]; exact h.1) (by rw [addr_block]; exact fun e => hne e.symm)).trans (h.2 j u hu)⟩

set_option maxRecDepth 100000 in
set_option maxHeartbeats 1000000 in
theorem proofAcc_walk (pa : Option Addr) (pc : Nat) (P : List ByteArray) (m : Int) (W : World) (ht : Tab W) (hp : StrA W pa pc P) (hpx : ∀ x ∈ P, x.size ≤ maxLen) (hm1 : -9223372036854775808 ≤ m) (hm2 : m ≤ 9223372036854775807) :
    Calls Tryd.prog 5 #[.slice pa P.length pc, .int .i64 m] W fun e w' => e = .returned (.bool true) ∧ Below W.heap.size W w' := by
  have H0 := Lib.hid (show OneAt W pa pc P W from ⟨ht, hp, Below.refl _ _⟩)
  have HPX := Lib.hid hpx
  clear ht hp hpx
  go_enter Tryd.func5, Tryd.ntmps5
  go_wp2_with fail
  refine (sane_any _ H0.out.1).mono ?_
  rintro e W1 ⟨rfl, hb1⟩
  have H1 := Lib.hid (H0.out.step hb1)
  clear hb1 H0
  go_wp2_with fail
  refine (few_list pa pc P 40 _ H1.out.2.1 (by decide) HPX.out).mono ?_
  rintro e W2 ⟨a2, c2, rfl, hA2, hb2⟩
  have H2 := Lib.hid (show OneAt W a2 c2 (fewS P 40) W2 from ⟨H1.out.1.below hb2, hA2, below_step H1.out.2.2 hb2⟩)
  clear hb2 H1 hA2
  have hfp := few_le P 40
  have HFP := Lib.hid (few_small P 40)
  clear HPX
  generalize fewS P 40 = L at *
  have HX := Lib.hid (show ∀ x ∈ L, x.size ≤ 1000 from fun x hx => Nat.le_trans (HFP.out x hx) (by decide))
  have hlc := H2.out.2.1.1
  have hcm := H2.out.2.1.2.1
  unfold maxLen at hcm
  go_wp2_with fail
  refine (root_any L.length L a2 c2 _ (Nat.le_refl _) H2.out.1 H2.out.2.1 HX.out).mono ?_
  rintro e W3 ⟨rfl, hb3⟩
  have H3 := Lib.hid (H2.out.step hb3)
  clear hb3 H2
  go_wp2_with fail
  go_loopw [7] (fun k wr => ∃ j : Nat, k = .int .i64 j ∧ j ≤ L.length ∧ OneAt W a2 c2 L wr) (fun k _ => L.length - (intOf k).toNat)
  case atStart => exact ⟨0, rfl, by omega, H3.out⟩
  case round =>
    clear H3
    obtain ⟨k, rfl, hk, hone⟩ := hrel
    have H4 := Lib.hid hone
    clear hone
    by_cases hkl : k < L.length
    · have hki : (k : Int) < (L.length : Int) := by omega
      obtain ⟨b, off, rfl, lb, lc⟩ := H4.out.2.1.2.2 k hkl
      obtain ⟨hacc, hlen⟩ := proof_accepted L k hkl
      have hB := binS_le 6 L.length (by omega)
      have hes := proof_at L k (some ⟨b, off, none⟩) c2 wr H4.out.1 H4.out.2.1 HX.out (by omega) (by omega) (proofS Sha.shaS L k) (by simp)
      have hbin := binary_any L.length
      have hX1 : (proofS Sha.shaS L k).length < 1000 := by omega
      have hsz : L[k].size ≤ 1000 := HX.out _ (List.getElem_mem hkl)
      have hvx := fun V a' c' (h : Tab V) (hS : StrA V a' c' (proofS Sha.shaS L k)) => verify_all (rootS Sha.shaS L) L[k] L.length k (proofS Sha.shaS L k) a' c' V h hS hX1 hsz (by omega)
      rw [hacc] at hvx
      have hCz : ∀ V, Below wr.heap.size wr V → V.cell? ⟨b, off + k, none⟩ = some (.string L[k]) := fun V hb => (hb.cell (p := ⟨b, off + k, none⟩) lb).trans lc
      have HKL := Lib.hid hkl
      generalize L[k] = z at *
      generalize rootS Sha.shaS L = r2 at *
      generalize proofS Sha.shaS L k = X at *
      generalize binS L.length = B at *
      have HE := Lib.hid hes
      have HBI := Lib.hid (fun V => hbin V (by omega))
      have HVX := Lib.hid hvx
      have HCZ := Lib.hid hCz
      have hlt : decide ((B : Int) < (X.length : Int)) = false := by simp; omega
      clear hes hbin hvx hacc hCz lb lc hkl
      go_wp2_with fail
      refine HE.out.mono ?_
      rintro e V5 ⟨a5, c5, rfl, hA5, hb5⟩
      have H5 := Lib.hid (And.intro (H4.out.step hb5) (And.intro hA5 hb5))
      have hcz := HCZ.out _ hb5
      clear hb5 hA5 H4 HE
      go_wp2_with fail
      refine (HBI.out _).mono ?_
      rintro e V6 ⟨rfl, rfl⟩
      go_wp2_with fail
      refine (HVX.out _ _ _ H5.out.1.1 H5.out.2.1).mono ?_
      rintro e V8 ⟨rfl, hb8⟩
      have H8 := Lib.hid (H5.out.1.step hb8)
      clear hb8 H5 hcz
      go_wp2_with fail
      go_roundw
      case rel => exact ⟨k + 1, by go_num, by have := HKL.out; omega, H8.out⟩
      case measure => have := HKL.out; simp [intOf]; omega
    · have hki : ¬ ((k : Int) < (L.length : Int)) := by omega
      by_cases hin : 0 ≤ m ∧ m < L.length
      · obtain ⟨i, rfl⟩ : ∃ i : Nat, m = i := ⟨m.toNat, by omega⟩
        have hil : i < L.length := by omega
        clear hin
        obtain ⟨b, off, rfl, lb, lc⟩ := H4.out.2.1.2.2 i hil
        obtain ⟨hacc, hlen⟩ := proof_accepted L i hil
        have hB := binS_le 6 L.length (by omega)
        have hX1 : (proofS Sha.shaS L i).length < 1000 := by omega
        have hsz : L[i].size ≤ 1000 := HX.out _ (List.getElem_mem hil)
        have hes := proof_at L i (some ⟨b, off, none⟩) c2 wr H4.out.1 H4.out.2.1 HX.out (by omega) (by omega) (proofS Sha.shaS L i) (by simp)
        have hvl := fun V a' c' (h : Tab V) (hS : StrA V a' c' (proofS Sha.shaS L i ++ [rootS Sha.shaS L])) => verify_all (rootS Sha.shaS L) L[i] L.length i (proofS Sha.shaS L i ++ [rootS Sha.shaS L]) a' c' V h hS (by rw [List.length_append, List.length_singleton]; omega) hsz (by omega)
        rw [other_length L i hil L[i] (proofS Sha.shaS L i ++ [rootS Sha.shaS L]) (by rw [List.length_append, List.length_singleton]; omega)] at hvl
        have hvs := fun V a' c' (h0 : 0 < (proofS Sha.shaS L i).length) (h : Tab V) (hS : StrA V a' c' ((proofS Sha.shaS L i).drop 1)) => (other_length L i hil L[i] ((proofS Sha.shaS L i).drop 1) (by rw [List.length_drop]; omega)) ▸ verify_all (rootS Sha.shaS L) L[i] L.length i ((proofS Sha.shaS L i).drop 1) a' c' V h hS (by rw [List.length_drop]; omega) hsz (by omega)
        have hCz : ∀ V, Below wr.heap.size wr V → V.cell? ⟨b, off + i, none⟩ = some (.string L[i]) := fun V hb => (hb.cell (p := ⟨b, off + i, none⟩) lb).trans lc
        have hi1 : (0 : Int) ≤ (i : Int) := by omega
        have hi2 : (i : Int) < (L.length : Int) := by omega
        simp only [List.length_append, List.length_singleton, List.length_drop] at hvl hvs
        clear hacc hB
        generalize L[i] = z at *
        generalize rootS Sha.shaS L = r2 at *
        generalize proofS Sha.shaS L i = X at *
        generalize binS L.length = B at *
        have HE := Lib.hid hes; have HVL := Lib.hid hvl; have HVS := Lib.hid hvs; have HCZ := Lib.hid hCz; have HX1 := Lib.hid hX1
        clear hes hvl hvs hCz lb lc hlen hsz hX1
        go_wp2_with fail
        refine HE.out.mono ?_
        rintro e V5 ⟨a5, c5, rfl, hA5, hb5⟩
        have H5 := Lib.hid (And.intro (H4.out.step hb5) (And.intro hA5 hb5))
        have HCZ5 := Lib.hid (fun V (hb : Below V5.heap.size V5 V) => HCZ.out V (below_step hb5 hb))
        clear hb5 hA5 H4 HE HCZ
        go_wp2_with fail
        obtain ⟨i0, hi0, hz0, hz1, hz2⟩ := info_parts info_string
        have hA5 := H5.out.2.1
        have HT5 := Lib.hid (show Tab V5 from H5.out.1.1)
        cases a5 with
        | none =>
          have hX0 : X = [] := by
            cases X with
            | nil => rfl
            | cons x xs => obtain ⟨_, _, e, _⟩ := hA5.2.2 0 (by simp); cases e
          subst hX0
          have HVL := Lib.hid (show ∀ V a' c', Tab V → StrA V a' c' ([] ++ [r2]) → Calls Tryd.prog 24 #[.string r2, .int .i64 L.length, .int .i64 i, .string z, .slice a' 1 c'] V (BoolEnd false V) from HVL.out)
          simp only [List.length_nil]
          refine wp_region_held_drew (S := fun v => v.cell? ⟨b, off + i, none⟩ = some (.string z)) (by kernel_rfl) (HCZ5.out _ ((Below.refl _ _).drew)) (fun hHeld => ?_)
          obtain ⟨U0, hU⟩ : ∃ X, X = V5.drew := ⟨_, rfl⟩
          have hb : Below V5.heap.size V5 V5.drew := (Below.refl _ _).drew
          rw [← hU] at hb hHeld ⊢
          clear hU
          refine wpAnyH_take (i := 0) (oi := { dst := some 97, op := Op.move (Operand.tmp 6), type := 9, pos := "law.go:99", after := #[], guard := none }) (v := ?vxn1_0) rfl (by kernel_rfl) (by kernel_rfl) (by kernel_rfl) (fun _ _ _ h => h) (Or.inl ⟨by rfl, ?yxn1_0⟩) hHeld ?txn1_0
          case yxn1_0 => (intro w hSw; try dsimp only at hSw); go_simp; try with_reducible rfl
          simp only [Act.put, List.setIfInBounds_toArray, List.set_cons_zero, List.set_cons_succ]
          refine wpAnyH_take (i := 1) (oi := { dst := some 98, op := Op.move (Operand.tmp 0), type := 26, pos := "law.go:99", after := #[], guard := none }) (v := ?vxn2_1) rfl (by kernel_rfl) (by kernel_rfl) (by kernel_rfl) (fun _ _ _ h => h) (Or.inl ⟨by rfl, ?yxn2_1⟩) hHeld ?txn2_1
          case yxn2_1 => (intro w hSw; try dsimp only at hSw); go_simp; try with_reducible rfl
          simp only [Act.put, List.setIfInBounds_toArray, List.set_cons_zero, List.set_cons_succ]
          refine wpAnyH_take (i := 2) (oi := { dst := some 99, op := Op.call { callee := Callee.builtin Go.Builtin.len, args := #[Operand.tmp 98], argTypes := #[26] }, type := 3, pos := "law.go:99", after := #[{ on := 1, ground := Ground.data }], guard := none }) (v := ?vxn3_2) rfl (by kernel_rfl) (by kernel_rfl) (by kernel_rfl) (fun _ _ _ h => h) (Or.inl ⟨by rfl, ?yxn3_2⟩) hHeld ?txn3_2
          case yxn3_2 => (intro w hSw; try dsimp only at hSw); go_simp; try with_reducible rfl
          simp only [Act.put, List.setIfInBounds_toArray, List.set_cons_zero, List.set_cons_succ]
          refine wpAnyH_take (i := 3) (oi := { dst := some 100, op := Op.move (Operand.tmp 1), type := 3, pos := "law.go:99", after := #[], guard := none }) (v := ?vxn4_3) rfl (by kernel_rfl) (by kernel_rfl) (by kernel_rfl) (fun _ _ _ h => h) (Or.inl ⟨by rfl, ?yxn4_3⟩) hHeld ?txn4_3
          case yxn4_3 => (intro w hSw; try dsimp only at hSw); go_simp; try with_reducible rfl
          simp only [Act.put, List.setIfInBounds_toArray, List.set_cons_zero, List.set_cons_succ]
          refine wpAnyH_take (i := 4) (oi := { dst := some 101, op := Op.move (Operand.tmp 0), type := 26, pos := "law.go:99", after := #[], guard := none }) (v := ?vxn5_4) rfl (by kernel_rfl) (by kernel_rfl) (by kernel_rfl) (fun _ _ _ h => h) (Or.inl ⟨by rfl, ?yxn5_4⟩) hHeld ?txn5_4
          case yxn5_4 => (intro w hSw; try dsimp only at hSw); go_simp; try with_reducible rfl
          simp only [Act.put, List.setIfInBounds_toArray, List.set_cons_zero, List.set_cons_succ]
          refine wpAnyH_take (i := 5) (oi := { dst := some 102, op := Op.move (Operand.tmp 1), type := 3, pos := "law.go:99", after := #[], guard := none }) (v := ?vxn6_5) rfl (by kernel_rfl) (by kernel_rfl) (by kernel_rfl) (fun _ _ _ h => h) (Or.inl ⟨by rfl, ?yxn6_5⟩) hHeld ?txn6_5
          case yxn6_5 => (intro w hSw; try dsimp only at hSw); go_simp; try with_reducible rfl
          simp only [Act.put, List.setIfInBounds_toArray, List.set_cons_zero, List.set_cons_succ]
          refine wpAnyH_take (i := 6) (oi := { dst := some 103, op := Op.indexAddr 26 (Operand.tmp 101) (Operand.tmp 102), type := 0, pos := "law.go:99", after := #[{ on := 4, ground := Ground.data }, { on := 5, ground := Ground.data }], guard := none }) (v := ?vxn7_6) rfl (by kernel_rfl) (by kernel_rfl) (by kernel_rfl) (fun _ _ _ h => h) (Or.inl ⟨by rfl, ?yxn7_6⟩) hHeld ?txn7_6
          case yxn7_6 => (intro w hSw; try dsimp only at hSw); go_simp; try with_reducible rfl
          simp only [Act.put, List.setIfInBounds_toArray, List.set_cons_zero, List.set_cons_succ]
          refine wpAnyH_take (i := 7) (oi := { dst := some 104, op := Op.load 9 (Operand.tmp 103), type := 9, pos := "law.go:99", after := #[{ on := 6, ground := Ground.data }], guard := none }) (v := ?vxn8_7) rfl (by kernel_rfl) (by kernel_rfl) (by kernel_rfl) (fun _ _ _ h => h) (Or.inl ⟨by rfl, ?yxn8_7⟩) hHeld ?txn8_7
          case yxn8_7 => (intro w hSw; try dsimp only at hSw); go_simp; try with_reducible rfl
          simp only [Act.put, List.setIfInBounds_toArray, List.set_cons_zero, List.set_cons_succ]
          refine wpAnyH_take (i := 9) (oi := { dst := some 106, op := Op.move (Operand.tmp 10), type := 26, pos := "law.go:99", after := #[], guard := none }) (v := ?vxn9_9) rfl (by kernel_rfl) (by kernel_rfl) (by kernel_rfl) (fun _ _ _ h => h) (Or.inl ⟨by rfl, ?yxn9_9⟩) hHeld ?txn9_9
          case yxn9_9 => (intro w hSw; try dsimp only at hSw); go_simp; try with_reducible rfl
          simp only [Act.put, List.setIfInBounds_toArray, List.set_cons_zero, List.set_cons_succ]
          refine wpAnyH_take (i := 11) (oi := { dst := some 108, op := Op.move (Operand.tmp 6), type := 9, pos := "law.go:99", after := #[], guard := none }) (v := ?vxn10_11) rfl (by kernel_rfl) (by kernel_rfl) (by kernel_rfl) (fun _ _ _ h => h) (Or.inl ⟨by rfl, ?yxn10_11⟩) hHeld ?txn10_11
          case yxn10_11 => (intro w hSw; try dsimp only at hSw); go_simp; try with_reducible rfl
          simp only [Act.put, List.setIfInBounds_toArray, List.set_cons_zero, List.set_cons_succ]
          refine wpAnyH_ready (rs := [8, 12]) (by kernel_rfl) (by simp) ?_
          refine AllReadyH.cons (o := { dst := some 105, op := Op.buildSlice 26 0 #[], type := 26, pos := "law.go:99", after := #[], guard := none }) rfl (fun K hK => ?_) ?_
          · go_simp
            have hb1 : Below V5.heap.size V5 (U0.alloc (.cells #[] 9)) := hb.alloc hb.size _
            have ho1 : (U0.alloc (.cells #[] 9)).ownsRow V5.heap.size 9 1 (.slice (some ⟨U0.heap.size, 0, none⟩) 0 0) 0 [] := World.ownsRow_made U0 #[] 0 hb.size (by decide) rfl
            refine hK.out _ _ (HCZ5.out _ hb1) (fun hHeld' => ?_)
            clear hK K hHeld
            have hHeld := hHeld'; clear hHeld'
            obtain ⟨U1, hU⟩ : ∃ X, X = U0.alloc (.cells #[] 9) := ⟨_, rfl⟩
            rw [← hU] at hb1 ho1 hHeld ⊢
            clear hU
            clear hb
            have hb := hb1; have ho := ho1; clear hb1 ho1
            try simp only [Act.put, List.setIfInBounds_toArray, List.set_cons_zero, List.set_cons_succ]
            refine wpAnyH_ready (rs := [10, 12]) (by kernel_rfl) (by simp) ?_
            refine AllReadyH.cons (o := { dst := some 107, op := Op.call { callee := Callee.builtin Go.Builtin.append, args := #[Operand.tmp 105, Operand.tmp 106], argTypes := #[26, 26] }, type := 26, pos := "law.go:99", after := #[{ on := 8, ground := Ground.data }, { on := 9, ground := Ground.data }], guard := none }) rfl (fun K hK => ?_) ?_
            · rw [if_pos (show Region.wanted _ _ = true from rfl)]
              refine Lib.wp_append_run _ (.tmp 105) (.tmp 106) _ _ rfl _ _ rfl rfl _ _ (append_none _ _ _ _) ?_
              refine hK.out _ _ (HCZ5.out _ hb) (fun hHeld' => ?_)
              clear hK K hHeld
              have hHeld := hHeld'; clear hHeld'
              try simp only [Act.put, List.setIfInBounds_toArray, List.set_cons_zero, List.set_cons_succ]
              refine wpAnyH_ready (rs := [12]) (by kernel_rfl) (by simp) ?_
              refine AllReadyH.cons (o := { dst := some 109, op := Op.buildSlice 26 1 #[(0, Operand.tmp 108)], type := 26, pos := "law.go:99", after := #[{ on := 11, ground := Ground.data }], guard := none }) rfl (fun K hK => ?_) AllReadyH.nil
              go_simp
              have hb1 : Below V5.heap.size V5 (U1.alloc (.cells #[.string r2] 9)) := hb.alloc hb.size _
              have hl1 := OneCell.new U1 r2
              have ho1 := ho.alloc (.cells #[.string r2] 9)
              clear ho
              refine hK.out _ _ (HCZ5.out _ hb1) (fun hHeld' => ?_)
              clear hK K hHeld
              have hHeld := hHeld'; clear hHeld'
              obtain ⟨U2, hU⟩ : ∃ X, X = U1.alloc (.cells #[.string r2] 9) := ⟨_, rfl⟩
              rw [← hU] at hb1 hl1 ho1 hHeld ⊢
              clear hU
              clear hb
              have hb := hb1; have hl := hl1; clear hb1 hl1
              have ho := ho1; clear ho1
              try simp only [Act.put, List.setIfInBounds_toArray, List.set_cons_zero, List.set_cons_succ]
              refine wpAnyH_ready (rs := [13]) (by kernel_rfl) (by simp) ?_
              refine AllReadyH.cons (o := { dst := some 110, op := Op.call { callee := Callee.builtin Go.Builtin.append, args := #[Operand.tmp 107, Operand.tmp 109], argTypes := #[26, 26] }, type := 26, pos := "law.go:99", after := #[{ on := 10, ground := Ground.data }, { on := 12, ground := Ground.data }, { on := 10, ground := Ground.chain }], guard := none }) rfl (fun K hK => ?_) AllReadyH.nil
              rw [if_pos (show Region.wanted _ _ = true from rfl)]
              refine wp_append_own _ (.tmp 107) (.tmp 109) 26 rfl V5.heap.size 9 i0 (.string ⟨#[]⟩) 1 16 Tryd.underlying26 hi0 hz0 hz1 hz2 rfl (by decide) _ _ _ rfl ho ⟨U1.heap.size, 0, none⟩ 1 1 [.string r2] rfl rfl hl.2 (by simp [Value.oneCell']) (by unfold maxLen; omega) (by omega) hb.size ?_
              intro v9 U3 ho9 hg _
              have hb1 : Below V5.heap.size V5 U3 := hb.grown hg hb.size (fun k e => (ho.lt k e).1)
              obtain ⟨a9, c9, rfl, hA9⟩ := (show StrOwn U3 V5.heap.size v9 ([] ++ [r2]) from by unfold StrOwn strV; rw [List.length_append, List.map_append]; first | exact ho9 | (rw [Nat.zero_add] at ho9; exact ho9)).arg
              rw [show ([] ++ [r2] : List ByteArray).length = 1 from rfl]
              refine hK.out _ _ (HCZ5.out _ hb1) (fun hHeld' => ?_)
              clear hK K hHeld
              have hHeld := hHeld'; clear hHeld'
              clear hb ho hg hl ho9
              have hb := hb1; clear hb1
              try simp only [Act.put, List.setIfInBounds_toArray, List.set_cons_zero, List.set_cons_succ]
              refine wpAnyH_ready (rs := [14]) (by kernel_rfl) (by simp) ?_
              refine AllReadyH.cons (o := { dst := some 111, op := Op.call { callee := Callee.value (Operand.func 24), args := #[Operand.tmp 97, Operand.tmp 99, Operand.tmp 100, Operand.tmp 104, Operand.tmp 110], argTypes := #[9, 3, 3, 9, 26] }, type := 4, pos := "law.go:99", after := #[{ on := 0, ground := Ground.data }, { on := 2, ground := Ground.data }, { on := 3, ground := Ground.data }, { on := 7, ground := Ground.data }, { on := 13, ground := Ground.data }, { on := 13, ground := Ground.chain }], guard := none }) rfl (fun K hK => ?_) AllReadyH.nil
              go_simp
              (with_reducible refine (HVL.out _ _ _ (HT5.out.below hb) hA9).mono ?_)
              rintro e U9 ⟨rfl, hb9⟩
              try go_wp2_with fail
              have hb1 := below_step hb hb9
              refine hK.out _ _ (HCZ5.out _ hb1) (fun hHeld' => ?_)
              clear hK K hHeld
              have hHeld := hHeld'; clear hHeld'
              clear hb hb9 hA9
              have hb := hb1; clear hb1
              try simp only [Act.put, List.setIfInBounds_toArray, List.set_cons_zero, List.set_cons_succ]
              refine wpAnyH_take (i := 15) (oi := { dst := some 13, op := Op.assign (Operand.tmp 111), type := 4, pos := "law.go:99", after := #[{ on := 14, ground := Ground.data }, { on := 14, ground := Ground.chain }, { on := 0, ground := Ground.phase }, { on := 1, ground := Ground.phase }, { on := 2, ground := Ground.phase }, { on := 3, ground := Ground.phase }, { on := 4, ground := Ground.phase }, { on := 5, ground := Ground.phase }, { on := 6, ground := Ground.phase }, { on := 7, ground := Ground.phase }, { on := 8, ground := Ground.phase }, { on := 9, ground := Ground.phase }, { on := 10, ground := Ground.phase }, { on := 11, ground := Ground.phase }, { on := 12, ground := Ground.phase }, { on := 13, ground := Ground.phase }, { on := 14, ground := Ground.phase }], guard := none }) (v := ?vxn11_15) rfl (by kernel_rfl) (by kernel_rfl) (by kernel_rfl) (fun _ _ _ h => h) (Or.inl ⟨by rfl, ?yxn11_15⟩) hHeld ?txn11_15
              case yxn11_15 => (intro w hSw; try dsimp only at hSw); go_simp; try with_reducible rfl
              simp only [Act.put, List.setIfInBounds_toArray, List.set_cons_zero, List.set_cons_succ]
              refine wpAnyH_done (by kernel_rfl) ?_ _
              go_wp2_with fail
              have hbd := hb.drew; clear hb
              refine wp_region_held_drew (S := (fun v => v.cell? ⟨b, off + i, none⟩ = some (.string z))) (by kernel_rfl) (HCZ5.out _ hbd) (fun hHeld => ?_)
              refine wpAnyH_take (i := 0) (oi := { dst := some 112, op := Op.move (Operand.tmp 10), type := 26, pos := "law.go:100", after := #[], guard := none }) (v := ?vmn1_0) rfl (by kernel_rfl) (by kernel_rfl) (by kernel_rfl) (fun _ _ _ h => h) (Or.inl ⟨by rfl, ?ymn1_0⟩) (by assumption) ?tmn1_0
              case ymn1_0 => (intro w hSw; try dsimp only at hSw); go_simp; try with_reducible rfl
              simp only [Act.put, List.setIfInBounds_toArray, List.set_cons_zero, List.set_cons_succ]
              refine wpAnyH_take (i := 1) (oi := { dst := some 113, op := Op.call { callee := Callee.builtin Go.Builtin.len, args := #[Operand.tmp 112], argTypes := #[26] }, type := 3, pos := "law.go:100", after := #[{ on := 0, ground := Ground.data }], guard := none }) (v := ?vmn1_1) rfl (by kernel_rfl) (by kernel_rfl) (by kernel_rfl) (fun _ _ _ h => h) (Or.inl ⟨by rfl, ?ymn1_1⟩) (by assumption) ?tmn1_1
              case ymn1_1 => (intro w hSw; try dsimp only at hSw); go_simp; try with_reducible rfl
              simp only [Act.put, List.setIfInBounds_toArray, List.set_cons_zero, List.set_cons_succ]
              refine wpAnyH_take (i := 2) (oi := { dst := some 114, op := Op.binOp BinOp.gtr 3 (Operand.tmp 113) (Operand.const (Value.int IntKind.i64 0)) 3, type := 4, pos := "law.go:100", after := #[{ on := 1, ground := Ground.data }], guard := none }) (v := ?vmn1_2) rfl (by kernel_rfl) (by kernel_rfl) (by kernel_rfl) (fun _ _ _ h => h) (Or.inl ⟨by rfl, ?ymn1_2⟩) (by assumption) ?tmn1_2
              case ymn1_2 => (intro w hSw; try dsimp only at hSw); go_simp; try with_reducible rfl
              simp only [Act.put, List.setIfInBounds_toArray, List.set_cons_zero, List.set_cons_succ]
              refine wpAnyH_take (i := 3) (oi := { dst := some 115, op := Op.move (Operand.tmp 114), type := 4, pos := "law.go:100", after := #[{ on := 2, ground := Ground.data }], guard := none }) (v := ?vmn1_3) rfl (by kernel_rfl) (by kernel_rfl) (by kernel_rfl) (fun _ _ _ h => h) (Or.inl ⟨by rfl, ?ymn1_3⟩) (by assumption) ?tmn1_3
              case ymn1_3 => (intro w hSw; try dsimp only at hSw); go_simp; try with_reducible rfl
              simp only [Act.put, List.setIfInBounds_toArray, List.set_cons_zero, List.set_cons_succ]
              refine wpAnyH_take (i := 4) (oi := { dst := some 116, op := Op.move (Operand.tmp 6), type := 9, pos := "law.go:100", after := #[{ on := 3, ground := Ground.guard }], guard := some (3, true) }) (v := undef) rfl (by kernel_rfl) (by kernel_rfl) (by kernel_rfl) (fun _ _ _ h => h) (Or.inr ⟨by rfl, rfl⟩) (by assumption) ?_
              simp only [Act.put, List.setIfInBounds_toArray, List.set_cons_zero, List.set_cons_succ]
              refine wpAnyH_take (i := 5) (oi := { dst := some 117, op := Op.move (Operand.tmp 0), type := 26, pos := "law.go:100", after := #[{ on := 3, ground := Ground.guard }], guard := some (3, true) }) (v := undef) rfl (by kernel_rfl) (by kernel_rfl) (by kernel_rfl) (fun _ _ _ h => h) (Or.inr ⟨by rfl, rfl⟩) (by assumption) ?_
              simp only [Act.put, List.setIfInBounds_toArray, List.set_cons_zero, List.set_cons_succ]
              refine wpAnyH_take (i := 6) (oi := { dst := some 118, op := Op.call { callee := Callee.builtin Go.Builtin.len, args := #[Operand.tmp 117], argTypes := #[26] }, type := 3, pos := "law.go:100", after := #[{ on := 5, ground := Ground.data }, { on := 3, ground := Ground.guard }], guard := some (3, true) }) (v := undef) rfl (by kernel_rfl) (by kernel_rfl) (by kernel_rfl) (fun _ _ _ h => h) (Or.inr ⟨by rfl, rfl⟩) (by assumption) ?_
              simp only [Act.put, List.setIfInBounds_toArray, List.set_cons_zero, List.set_cons_succ]
              refine wpAnyH_take (i := 7) (oi := { dst := some 119, op := Op.move (Operand.tmp 1), type := 3, pos := "law.go:100", after := #[{ on := 3, ground := Ground.guard }], guard := some (3, true) }) (v := undef) rfl (by kernel_rfl) (by kernel_rfl) (by kernel_rfl) (fun _ _ _ h => h) (Or.inr ⟨by rfl, rfl⟩) (by assumption) ?_
              simp only [Act.put, List.setIfInBounds_toArray, List.set_cons_zero, List.set_cons_succ]
              refine wpAnyH_take (i := 8) (oi := { dst := some 120, op := Op.move (Operand.tmp 0), type := 26, pos := "law.go:100", after := #[{ on := 3, ground := Ground.guard }], guard := some (3, true) }) (v := undef) rfl (by kernel_rfl) (by kernel_rfl) (by kernel_rfl) (fun _ _ _ h => h) (Or.inr ⟨by rfl, rfl⟩) (by assumption) ?_
              simp only [Act.put, List.setIfInBounds_toArray, List.set_cons_zero, List.set_cons_succ]
              refine wpAnyH_take (i := 9) (oi := { dst := some 121, op := Op.move (Operand.tmp 1), type := 3, pos := "law.go:100", after := #[{ on := 3, ground := Ground.guard }], guard := some (3, true) }) (v := undef) rfl (by kernel_rfl) (by kernel_rfl) (by kernel_rfl) (fun _ _ _ h => h) (Or.inr ⟨by rfl, rfl⟩) (by assumption) ?_
              simp only [Act.put, List.setIfInBounds_toArray, List.set_cons_zero, List.set_cons_succ]
              refine wpAnyH_take (i := 10) (oi := { dst := some 122, op := Op.indexAddr 26 (Operand.tmp 120) (Operand.tmp 121), type := 0, pos := "law.go:100", after := #[{ on := 8, ground := Ground.data }, { on := 9, ground := Ground.data }, { on := 3, ground := Ground.guard }], guard := some (3, true) }) (v := undef) rfl (by kernel_rfl) (by kernel_rfl) (by kernel_rfl) (fun _ _ _ h => h) (Or.inr ⟨by rfl, rfl⟩) (by assumption) ?_
              simp only [Act.put, List.setIfInBounds_toArray, List.set_cons_zero, List.set_cons_succ]
              refine wpAnyH_take (i := 11) (oi := { dst := some 123, op := Op.load 9 (Operand.tmp 122), type := 9, pos := "law.go:100", after := #[{ on := 10, ground := Ground.data }, { on := 3, ground := Ground.guard }], guard := some (3, true) }) (v := undef) rfl (by kernel_rfl) (by kernel_rfl) (by kernel_rfl) (fun _ _ _ h => h) (Or.inr ⟨by rfl, rfl⟩) (by assumption) ?_
              simp only [Act.put, List.setIfInBounds_toArray, List.set_cons_zero, List.set_cons_succ]
              refine wpAnyH_take (i := 12) (oi := { dst := some 124, op := Op.move (Operand.tmp 10), type := 26, pos := "law.go:100", after := #[{ on := 3, ground := Ground.guard }], guard := some (3, true) }) (v := undef) rfl (by kernel_rfl) (by kernel_rfl) (by kernel_rfl) (fun _ _ _ h => h) (Or.inr ⟨by rfl, rfl⟩) (by assumption) ?_
              simp only [Act.put, List.setIfInBounds_toArray, List.set_cons_zero, List.set_cons_succ]
              refine wpAnyH_take (i := 13) (oi := { dst := some 125, op := Op.slice 26 (Operand.tmp 124) (some (Operand.const (Value.int IntKind.i64 1))) none none, type := 26, pos := "law.go:100", after := #[{ on := 12, ground := Ground.data }, { on := 3, ground := Ground.guard }], guard := some (3, true) }) (v := undef) rfl (by kernel_rfl) (by kernel_rfl) (by kernel_rfl) (fun _ _ _ h => h) (Or.inr ⟨by rfl, rfl⟩) (by assumption) ?_
              simp only [Act.put, List.setIfInBounds_toArray, List.set_cons_zero, List.set_cons_succ]
              refine wpAnyH_take (i := 14) (oi := { dst := some 126, op := Op.call { callee := Callee.value (Operand.func 24), args := #[Operand.tmp 116, Operand.tmp 118, Operand.tmp 119, Operand.tmp 123, Operand.tmp 125], argTypes := #[9, 3, 3, 9, 26] }, type := 4, pos := "law.go:100", after := #[{ on := 4, ground := Ground.data }, { on := 6, ground := Ground.data }, { on := 7, ground := Ground.data }, { on := 11, ground := Ground.data }, { on := 13, ground := Ground.data }, { on := 3, ground := Ground.chain }, { on := 3, ground := Ground.guard }], guard := some (3, true) }) (v := undef) rfl (by kernel_rfl) (by kernel_rfl) (by kernel_rfl) (fun _ _ _ h => h) (Or.inr ⟨by rfl, rfl⟩) (by assumption) ?_
              simp only [Act.put, List.setIfInBounds_toArray, List.set_cons_zero, List.set_cons_succ]
              refine wpAnyH_take (i := 15) (oi := { dst := some 127, op := Op.pick (Operand.tmp 115) (Operand.tmp 126) (Operand.const (Value.bool false)), type := 4, pos := "law.go:100", after := #[{ on := 3, ground := Ground.data }, { on := 14, ground := Ground.data }], guard := none }) (v := ?vmn1_15) rfl (by kernel_rfl) (by kernel_rfl) (by kernel_rfl) (fun _ _ _ h => h) (Or.inl ⟨by rfl, ?ymn1_15⟩) (by assumption) ?tmn1_15
              case ymn1_15 => (intro w hSw; try dsimp only at hSw); go_simp; try with_reducible rfl
              simp only [Act.put, List.setIfInBounds_toArray, List.set_cons_zero, List.set_cons_succ]
              refine wpAnyH_take (i := 16) (oi := { dst := some 14, op := Op.assign (Operand.tmp 127), type := 4, pos := "law.go:100", after := #[{ on := 15, ground := Ground.data }, { on := 14, ground := Ground.chain }, { on := 0, ground := Ground.phase }, { on := 1, ground := Ground.phase }, { on := 2, ground := Ground.phase }, { on := 3, ground := Ground.phase }, { on := 4, ground := Ground.phase }, { on := 5, ground := Ground.phase }, { on := 6, ground := Ground.phase }, { on := 7, ground := Ground.phase }, { on := 8, ground := Ground.phase }, { on := 9, ground := Ground.phase }, { on := 10, ground := Ground.phase }, { on := 11, ground := Ground.phase }, { on := 12, ground := Ground.phase }, { on := 13, ground := Ground.phase }, { on := 14, ground := Ground.phase }, { on := 15, ground := Ground.phase }], guard := none }) (v := ?vmn1_16) rfl (by kernel_rfl) (by kernel_rfl) (by kernel_rfl) (fun _ _ _ h => h) (Or.inl ⟨by rfl, ?ymn1_16⟩) (by assumption) ?tmn1_16
              case ymn1_16 => (intro w hSw; try dsimp only at hSw); go_simp; try with_reducible rfl
              simp only [Act.put, List.setIfInBounds_toArray, List.set_cons_zero, List.set_cons_succ]
              refine wpAnyH_done (by kernel_rfl) ?_ _
              go_wp2_with fail
              go_ret
              exact ⟨rfl, below_step H5.out.1.2.2 hbd⟩
            refine AllReadyH.cons (o := { dst := some 109, op := Op.buildSlice 26 1 #[(0, Operand.tmp 108)], type := 26, pos := "law.go:99", after := #[{ on := 11, ground := Ground.data }], guard := none }) rfl (fun K hK => ?_) AllReadyH.nil
            go_simp
            have hb1 : Below V5.heap.size V5 (U1.alloc (.cells #[.string r2] 9)) := hb.alloc hb.size _
            have hl1 := OneCell.new U1 r2
            have ho1 := ho.alloc (.cells #[.string r2] 9)
            have hne : (Value.slice (some ⟨U0.heap.size, 0, none⟩) 0 0).ownBlock ≠ some U1.heap.size := fun e => Nat.lt_irrefl _ (ho.lt _ e).2
            clear ho
            refine hK.out _ _ (HCZ5.out _ hb1) (fun hHeld' => ?_)
            clear hK K hHeld
            have hHeld := hHeld'; clear hHeld'
            obtain ⟨U2, hU⟩ : ∃ X, X = U1.alloc (.cells #[.string r2] 9) := ⟨_, rfl⟩
            rw [← hU] at hb1 hl1 ho1 hHeld ⊢
            clear hU
            clear hb
            have hb := hb1; have hl := hl1; clear hb1 hl1
            have ho := ho1; clear ho1
            try simp only [Act.put, List.setIfInBounds_toArray, List.set_cons_zero, List.set_cons_succ]
            refine wpAnyH_ready (rs := [10]) (by kernel_rfl) (by simp) ?_
            refine AllReadyH.cons (o := { dst := some 107, op := Op.call { callee := Callee.builtin Go.Builtin.append, args := #[Operand.tmp 105, Operand.tmp 106], argTypes := #[26, 26] }, type := 26, pos := "law.go:99", after := #[{ on := 8, ground := Ground.data }, { on := 9, ground := Ground.data }], guard := none }) rfl (fun K hK => ?_) AllReadyH.nil
            rw [if_pos (show Region.wanted _ _ = true from rfl)]
            refine Lib.wp_append_run _ (.tmp 105) (.tmp 106) _ _ rfl _ _ rfl rfl _ _ (append_none _ _ _ _) ?_
            refine hK.out _ _ (HCZ5.out _ hb) (fun hHeld' => ?_)
            clear hK K hHeld
            have hHeld := hHeld'; clear hHeld'
            try simp only [Act.put, List.setIfInBounds_toArray, List.set_cons_zero, List.set_cons_succ]
            refine wpAnyH_ready (rs := [13]) (by kernel_rfl) (by simp) ?_
            refine AllReadyH.cons (o := { dst := some 110, op := Op.call { callee := Callee.builtin Go.Builtin.append, args := #[Operand.tmp 107, Operand.tmp 109], argTypes := #[26, 26] }, type := 26, pos := "law.go:99", after := #[{ on := 10, ground := Ground.data }, { on := 12, ground := Ground.data }, { on := 10, ground := Ground.chain }], guard := none }) rfl (fun K hK => ?_) AllReadyH.nil
            rw [if_pos (show Region.wanted _ _ = true from rfl)]
            refine wp_append_own _ (.tmp 107) (.tmp 109) 26 rfl V5.heap.size 9 i0 (.string ⟨#[]⟩) 1 16 Tryd.underlying26 hi0 hz0 hz1 hz2 rfl (by decide) _ _ _ rfl ho ⟨U1.heap.size, 0, none⟩ 1 1 [.string r2] rfl rfl hl.2 (by simp [Value.oneCell']) (by unfold maxLen; omega) (by omega) hb.size ?_
            intro v9 U3 ho9 hg _
            have hb1 : Below V5.heap.size V5 U3 := hb.grown hg hb.size (fun k e => (ho.lt k e).1)
            obtain ⟨a9, c9, rfl, hA9⟩ := (show StrOwn U3 V5.heap.size v9 ([] ++ [r2]) from by unfold StrOwn strV; rw [List.length_append, List.map_append]; first | exact ho9 | (rw [Nat.zero_add] at ho9; exact ho9)).arg
            rw [show ([] ++ [r2] : List ByteArray).length = 1 from rfl]
            refine hK.out _ _ (HCZ5.out _ hb1) (fun hHeld' => ?_)
            clear hK K hHeld
            have hHeld := hHeld'; clear hHeld'
            clear hb ho hg hl ho9
            have hb := hb1; clear hb1
            try simp only [Act.put, List.setIfInBounds_toArray, List.set_cons_zero, List.set_cons_succ]
            refine wpAnyH_ready (rs := [14]) (by kernel_rfl) (by simp) ?_
            refine AllReadyH.cons (o := { dst := some 111, op := Op.call { callee := Callee.value (Operand.func 24), args := #[Operand.tmp 97, Operand.tmp 99, Operand.tmp 100, Operand.tmp 104, Operand.tmp 110], argTypes := #[9, 3, 3, 9, 26] }, type := 4, pos := "law.go:99", after := #[{ on := 0, ground := Ground.data }, { on := 2, ground := Ground.data }, { on := 3, ground := Ground.data }, { on := 7, ground := Ground.data }, { on := 13, ground := Ground.data }, { on := 13, ground := Ground.chain }], guard := none }) rfl (fun K hK => ?_) AllReadyH.nil
            go_simp
            (with_reducible refine (HVL.out _ _ _ (HT5.out.below hb) hA9).mono ?_)
            rintro e U9 ⟨rfl, hb9⟩
            try go_wp2_with fail
            have hb1 := below_step hb hb9
            refine hK.out _ _ (HCZ5.out _ hb1) (fun hHeld' => ?_)
            clear hK K hHeld
            have hHeld := hHeld'; clear hHeld'
            clear hb hb9 hA9
            have hb := hb1; clear hb1
            try simp only [Act.put, List.setIfInBounds_toArray, List.set_cons_zero, List.set_cons_succ]
            refine wpAnyH_take (i := 15) (oi := { dst := some 13, op := Op.assign (Operand.tmp 111), type := 4, pos := "law.go:99", after := #[{ on := 14, ground := Ground.data }, { on := 14, ground := Ground.chain }, { on := 0, ground := Ground.phase }, { on := 1, ground := Ground.phase }, { on := 2, ground := Ground.phase }, { on := 3, ground := Ground.phase }, { on := 4, ground := Ground.phase }, { on := 5, ground := Ground.phase }, { on := 6, ground := Ground.phase }, { on := 7, ground := Ground.phase }, { on := 8, ground := Ground.phase }, { on := 9, ground := Ground.phase }, { on := 10, ground := Ground.phase }, { on := 11, ground := Ground.phase }, { on := 12, ground := Ground.phase }, { on := 13, ground := Ground.phase }, { on := 14, ground := Ground.phase }], guard := none }) (v := ?vxn12_15) rfl (by kernel_rfl) (by kernel_rfl) (by kernel_rfl) (fun _ _ _ h => h) (Or.inl ⟨by rfl, ?yxn12_15⟩) hHeld ?txn12_15
            case yxn12_15 => (intro w hSw; try dsimp only at hSw); go_simp; try with_reducible rfl
            simp only [Act.put, List.setIfInBounds_toArray, List.set_cons_zero, List.set_cons_succ]
            refine wpAnyH_done (by kernel_rfl) ?_ _
            go_wp2_with fail
            have hbd := hb.drew; clear hb
            refine wp_region_held_drew (S := (fun v => v.cell? ⟨b, off + i, none⟩ = some (.string z))) (by kernel_rfl) (HCZ5.out _ hbd) (fun hHeld => ?_)
            refine wpAnyH_take (i := 0) (oi := { dst := some 112, op := Op.move (Operand.tmp 10), type := 26, pos := "law.go:100", after := #[], guard := none }) (v := ?vmn2_0) rfl (by kernel_rfl) (by kernel_rfl) (by kernel_rfl) (fun _ _ _ h => h) (Or.inl ⟨by rfl, ?ymn2_0⟩) (by assumption) ?tmn2_0
            case ymn2_0 => (intro w hSw; try dsimp only at hSw); go_simp; try with_reducible rfl
            simp only [Act.put, List.setIfInBounds_toArray, List.set_cons_zero, List.set_cons_succ]
            refine wpAnyH_take (i := 1) (oi := { dst := some 113, op := Op.call { callee := Callee.builtin Go.Builtin.len, args := #[Operand.tmp 112], argTypes := #[26] }, type := 3, pos := "law.go:100", after := #[{ on := 0, ground := Ground.data }], guard := none }) (v := ?vmn2_1) rfl (by kernel_rfl) (by kernel_rfl) (by kernel_rfl) (fun _ _ _ h => h) (Or.inl ⟨by rfl, ?ymn2_1⟩) (by assumption) ?tmn2_1
            case ymn2_1 => (intro w hSw; try dsimp only at hSw); go_simp; try with_reducible rfl
            simp only [Act.put, List.setIfInBounds_toArray, List.set_cons_zero, List.set_cons_succ]
            refine wpAnyH_take (i := 2) (oi := { dst := some 114, op := Op.binOp BinOp.gtr 3 (Operand.tmp 113) (Operand.const (Value.int IntKind.i64 0)) 3, type := 4, pos := "law.go:100", after := #[{ on := 1, ground := Ground.data }], guard := none }) (v := ?vmn2_2) rfl (by kernel_rfl) (by kernel_rfl) (by kernel_rfl) (fun _ _ _ h => h) (Or.inl ⟨by rfl, ?ymn2_2⟩) (by assumption) ?tmn2_2
            case ymn2_2 => (intro w hSw; try dsimp only at hSw); go_simp; try with_reducible rfl
            simp only [Act.put, List.setIfInBounds_toArray, List.set_cons_zero, List.set_cons_succ]
            refine wpAnyH_take (i := 3) (oi := { dst := some 115, op := Op.move (Operand.tmp 114), type := 4, pos := "law.go:100", after := #[{ on := 2, ground := Ground.data }], guard := none }) (v := ?vmn2_3) rfl (by kernel_rfl) (by kernel_rfl) (by kernel_rfl) (fun _ _ _ h => h) (Or.inl ⟨by rfl, ?ymn2_3⟩) (by assumption) ?tmn2_3
            case ymn2_3 => (intro w hSw; try dsimp only at hSw); go_simp; try with_reducible rfl
            simp only [Act.put, List.setIfInBounds_toArray, List.set_cons_zero, List.set_cons_succ]
            refine wpAnyH_take (i := 4) (oi := { dst := some 116, op := Op.move (Operand.tmp 6), type := 9, pos := "law.go:100", after := #[{ on := 3, ground := Ground.guard }], guard := some (3, true) }) (v := undef) rfl (by kernel_rfl) (by kernel_rfl) (by kernel_rfl) (fun _ _ _ h => h) (Or.inr ⟨by rfl, rfl⟩) (by assumption) ?_
            simp only [Act.put, List.setIfInBounds_toArray, List.set_cons_zero, List.set_cons_succ]
            refine wpAnyH_take (i := 5) (oi := { dst := some 117, op := Op.move (Operand.tmp 0), type := 26, pos := "law.go:100", after := #[{ on := 3, ground := Ground.guard }], guard := some (3, true) }) (v := undef) rfl (by kernel_rfl) (by kernel_rfl) (by kernel_rfl) (fun _ _ _ h => h) (Or.inr ⟨by rfl, rfl⟩) (by assumption) ?_
            simp only [Act.put, List.setIfInBounds_toArray, List.set_cons_zero, List.set_cons_succ]
            refine wpAnyH_take (i := 6) (oi := { dst := some 118, op := Op.call { callee := Callee.builtin Go.Builtin.len, args := #[Operand.tmp 117], argTypes := #[26] }, type := 3, pos := "law.go:100", after := #[{ on := 5, ground := Ground.data }, { on := 3, ground := Ground.guard }], guard := some (3, true) }) (v := undef) rfl (by kernel_rfl) (by kernel_rfl) (by kernel_rfl) (fun _ _ _ h => h) (Or.inr ⟨by rfl, rfl⟩) (by assumption) ?_
            simp only [Act.put, List.setIfInBounds_toArray, List.set_cons_zero, List.set_cons_succ]
            refine wpAnyH_take (i := 7) (oi := { dst := some 119, op := Op.move (Operand.tmp 1), type := 3, pos := "law.go:100", after := #[{ on := 3, ground := Ground.guard }], guard := some (3, true) }) (v := undef) rfl (by kernel_rfl) (by kernel_rfl) (by kernel_rfl) (fun _ _ _ h => h) (Or.inr ⟨by rfl, rfl⟩) (by assumption) ?_
            simp only [Act.put, List.setIfInBounds_toArray, List.set_cons_zero, List.set_cons_succ]
            refine wpAnyH_take (i := 8) (oi := { dst := some 120, op := Op.move (Operand.tmp 0), type := 26, pos := "law.go:100", after := #[{ on := 3, ground := Ground.guard }], guard := some (3, true) }) (v := undef) rfl (by kernel_rfl) (by kernel_rfl) (by kernel_rfl) (fun _ _ _ h => h) (Or.inr ⟨by rfl, rfl⟩) (by assumption) ?_
            simp only [Act.put, List.setIfInBounds_toArray, List.set_cons_zero, List.set_cons_succ]
            refine wpAnyH_take (i := 9) (oi := { dst := some 121, op := Op.move (Operand.tmp 1), type := 3, pos := "law.go:100", after := #[{ on := 3, ground := Ground.guard }], guard := some (3, true) }) (v := undef) rfl (by kernel_rfl) (by kernel_rfl) (by kernel_rfl) (fun _ _ _ h => h) (Or.inr ⟨by rfl, rfl⟩) (by assumption) ?_
            simp only [Act.put, List.setIfInBounds_toArray, List.set_cons_zero, List.set_cons_succ]
            refine wpAnyH_take (i := 10) (oi := { dst := some 122, op := Op.indexAddr 26 (Operand.tmp 120) (Operand.tmp 121), type := 0, pos := "law.go:100", after := #[{ on := 8, ground := Ground.data }, { on := 9, ground := Ground.data }, { on := 3, ground := Ground.guard }], guard := some (3, true) }) (v := undef) rfl (by kernel_rfl) (by kernel_rfl) (by kernel_rfl) (fun _ _ _ h => h) (Or.inr ⟨by rfl, rfl⟩) (by assumption) ?_
            simp only [Act.put, List.setIfInBounds_toArray, List.set_cons_zero, List.set_cons_succ]
            refine wpAnyH_take (i := 11) (oi := { dst := some 123, op := Op.load 9 (Operand.tmp 122), type := 9, pos := "law.go:100", after := #[{ on := 10, ground := Ground.data }, { on := 3, ground := Ground.guard }], guard := some (3, true) }) (v := undef) rfl (by kernel_rfl) (by kernel_rfl) (by kernel_rfl) (fun _ _ _ h => h) (Or.inr ⟨by rfl, rfl⟩) (by assumption) ?_
            simp only [Act.put, List.setIfInBounds_toArray, List.set_cons_zero, List.set_cons_succ]
            refine wpAnyH_take (i := 12) (oi := { dst := some 124, op := Op.move (Operand.tmp 10), type := 26, pos := "law.go:100", after := #[{ on := 3, ground := Ground.guard }], guard := some (3, true) }) (v := undef) rfl (by kernel_rfl) (by kernel_rfl) (by kernel_rfl) (fun _ _ _ h => h) (Or.inr ⟨by rfl, rfl⟩) (by assumption) ?_
            simp only [Act.put, List.setIfInBounds_toArray, List.set_cons_zero, List.set_cons_succ]
            refine wpAnyH_take (i := 13) (oi := { dst := some 125, op := Op.slice 26 (Operand.tmp 124) (some (Operand.const (Value.int IntKind.i64 1))) none none, type := 26, pos := "law.go:100", after := #[{ on := 12, ground := Ground.data }, { on := 3, ground := Ground.guard }], guard := some (3, true) }) (v := undef) rfl (by kernel_rfl) (by kernel_rfl) (by kernel_rfl) (fun _ _ _ h => h) (Or.inr ⟨by rfl, rfl⟩) (by assumption) ?_
            simp only [Act.put, List.setIfInBounds_toArray, List.set_cons_zero, List.set_cons_succ]
            refine wpAnyH_take (i := 14) (oi := { dst := some 126, op := Op.call { callee := Callee.value (Operand.func 24), args := #[Operand.tmp 116, Operand.tmp 118, Operand.tmp 119, Operand.tmp 123, Operand.tmp 125], argTypes := #[9, 3, 3, 9, 26] }, type := 4, pos := "law.go:100", after := #[{ on := 4, ground := Ground.data }, { on := 6, ground := Ground.data }, { on := 7, ground := Ground.data }, { on := 11, ground := Ground.data }, { on := 13, ground := Ground.data }, { on := 3, ground := Ground.chain }, { on := 3, ground := Ground.guard }], guard := some (3, true) }) (v := undef) rfl (by kernel_rfl) (by kernel_rfl) (by kernel_rfl) (fun _ _ _ h => h) (Or.inr ⟨by rfl, rfl⟩) (by assumption) ?_
            simp only [Act.put, List.setIfInBounds_toArray, List.set_cons_zero, List.set_cons_succ]
            refine wpAnyH_take (i := 15) (oi := { dst := some 127, op := Op.pick (Operand.tmp 115) (Operand.tmp 126) (Operand.const (Value.bool false)), type := 4, pos := "law.go:100", after := #[{ on := 3, ground := Ground.data }, { on := 14, ground := Ground.data }], guard := none }) (v := ?vmn2_15) rfl (by kernel_rfl) (by kernel_rfl) (by kernel_rfl) (fun _ _ _ h => h) (Or.inl ⟨by rfl, ?ymn2_15⟩) (by assumption) ?tmn2_15
            case ymn2_15 => (intro w hSw; try dsimp only at hSw); go_simp; try with_reducible rfl
            simp only [Act.put, List.setIfInBounds_toArray, List.set_cons_zero, List.set_cons_succ]
            refine wpAnyH_take (i := 16) (oi := { dst := some 14, op := Op.assign (Operand.tmp 127), type := 4, pos := "law.go:100", after := #[{ on := 15, ground := Ground.data }, { on := 14, ground := Ground.chain }, { on := 0, ground := Ground.phase }, { on := 1, ground := Ground.phase }, { on := 2, ground := Ground.phase }, { on := 3, ground := Ground.phase }, { on := 4, ground := Ground.phase }, { on := 5, ground := Ground.phase }, { on := 6, ground := Ground.phase }, { on := 7, ground := Ground.phase }, { on := 8, ground := Ground.phase }, { on := 9, ground := Ground.phase }, { on := 10, ground := Ground.phase }, { on := 11, ground := Ground.phase }, { on := 12, ground := Ground.phase }, { on := 13, ground := Ground.phase }, { on := 14, ground := Ground.phase }, { on := 15, ground := Ground.phase }], guard := none }) (v := ?vmn2_16) rfl (by kernel_rfl) (by kernel_rfl) (by kernel_rfl) (fun _ _ _ h => h) (Or.inl ⟨by rfl, ?ymn2_16⟩) (by assumption) ?tmn2_16
            case ymn2_16 => (intro w hSw; try dsimp only at hSw); go_simp; try with_reducible rfl
            simp only [Act.put, List.setIfInBounds_toArray, List.set_cons_zero, List.set_cons_succ]
            refine wpAnyH_done (by kernel_rfl) ?_ _
            go_wp2_with fail
            go_ret
            exact ⟨rfl, below_step H5.out.1.2.2 hbd⟩
          refine AllReadyH.cons (o := { dst := some 109, op := Op.buildSlice 26 1 #[(0, Operand.tmp 108)], type := 26, pos := "law.go:99", after := #[{ on := 11, ground := Ground.data }], guard := none }) rfl (fun K hK => ?_) AllReadyH.nil
          go_simp
          have hb1 : Below V5.heap.size V5 (U0.alloc (.cells #[.string r2] 9)) := hb.alloc hb.size _
          have hl1 := OneCell.new U0 r2
          refine hK.out _ _ (HCZ5.out _ hb1) (fun hHeld' => ?_)
          clear hK K hHeld
          have hHeld := hHeld'; clear hHeld'
          obtain ⟨U1, hU⟩ : ∃ X, X = U0.alloc (.cells #[.string r2] 9) := ⟨_, rfl⟩
          rw [← hU] at hb1 hl1 hHeld ⊢
          clear hU
          clear hb
          have hb := hb1; have hl := hl1; clear hb1 hl1
          try simp only [Act.put, List.setIfInBounds_toArray, List.set_cons_zero, List.set_cons_succ]
          refine wpAnyH_ready (rs := [8]) (by kernel_rfl) (by simp) ?_
          refine AllReadyH.cons (o := { dst := some 105, op := Op.buildSlice 26 0 #[], type := 26, pos := "law.go:99", after := #[], guard := none }) rfl (fun K hK => ?_) AllReadyH.nil
          go_simp
          have hb1 : Below V5.heap.size V5 (U1.alloc (.cells #[] 9)) := hb.alloc hb.size _
          have ho1 : (U1.alloc (.cells #[] 9)).ownsRow V5.heap.size 9 1 (.slice (some ⟨U1.heap.size, 0, none⟩) 0 0) 0 [] := World.ownsRow_made U1 #[] 0 hb.size (by decide) rfl
          have hl1 := hl.alloc (.cells #[] 9)
          have hne : (Value.slice (some ⟨U1.heap.size, 0, none⟩) 0 0).ownBlock ≠ some U0.heap.size := fun e => Nat.lt_irrefl _ (Option.some.inj e ▸ hl.1)
          clear hl
          refine hK.out _ _ (HCZ5.out _ hb1) (fun hHeld' => ?_)
          clear hK K hHeld
          have hHeld := hHeld'; clear hHeld'
          obtain ⟨U2, hU⟩ : ∃ X, X = U1.alloc (.cells #[] 9) := ⟨_, rfl⟩
          rw [← hU] at hb1 ho1 hl1 hHeld ⊢
          clear hU
          clear hb
          have hb := hb1; have ho := ho1; clear hb1 ho1
          have hl := hl1; clear hl1
          try simp only [Act.put, List.setIfInBounds_toArray, List.set_cons_zero, List.set_cons_succ]
          refine wpAnyH_ready (rs := [10]) (by kernel_rfl) (by simp) ?_
          refine AllReadyH.cons (o := { dst := some 107, op := Op.call { callee := Callee.builtin Go.Builtin.append, args := #[Operand.tmp 105, Operand.tmp 106], argTypes := #[26, 26] }, type := 26, pos := "law.go:99", after := #[{ on := 8, ground := Ground.data }, { on := 9, ground := Ground.data }], guard := none }) rfl (fun K hK => ?_) AllReadyH.nil
          rw [if_pos (show Region.wanted _ _ = true from rfl)]
          refine Lib.wp_append_run _ (.tmp 105) (.tmp 106) _ _ rfl _ _ rfl rfl _ _ (append_none _ _ _ _) ?_
          refine hK.out _ _ (HCZ5.out _ hb) (fun hHeld' => ?_)
          clear hK K hHeld
          have hHeld := hHeld'; clear hHeld'
          try simp only [Act.put, List.setIfInBounds_toArray, List.set_cons_zero, List.set_cons_succ]
          refine wpAnyH_ready (rs := [13]) (by kernel_rfl) (by simp) ?_
          refine AllReadyH.cons (o := { dst := some 110, op := Op.call { callee := Callee.builtin Go.Builtin.append, args := #[Operand.tmp 107, Operand.tmp 109], argTypes := #[26, 26] }, type := 26, pos := "law.go:99", after := #[{ on := 10, ground := Ground.data }, { on := 12, ground := Ground.data }, { on := 10, ground := Ground.chain }], guard := none }) rfl (fun K hK => ?_) AllReadyH.nil
          rw [if_pos (show Region.wanted _ _ = true from rfl)]
          refine wp_append_own _ (.tmp 107) (.tmp 109) 26 rfl V5.heap.size 9 i0 (.string ⟨#[]⟩) 1 16 Tryd.underlying26 hi0 hz0 hz1 hz2 rfl (by decide) _ _ _ rfl ho ⟨U0.heap.size, 0, none⟩ 1 1 [.string r2] rfl rfl hl.2 (by simp [Value.oneCell']) (by unfold maxLen; omega) (by omega) hb.size ?_
          intro v9 U3 ho9 hg _
          have hb1 : Below V5.heap.size V5 U3 := hb.grown hg hb.size (fun k e => (ho.lt k e).1)
          obtain ⟨a9, c9, rfl, hA9⟩ := (show StrOwn U3 V5.heap.size v9 ([] ++ [r2]) from by unfold StrOwn strV; rw [List.length_append, List.map_append]; first | exact ho9 | (rw [Nat.zero_add] at ho9; exact ho9)).arg
          rw [show ([] ++ [r2] : List ByteArray).length = 1 from rfl]
          refine hK.out _ _ (HCZ5.out _ hb1) (fun hHeld' => ?_)
          clear hK K hHeld
          have hHeld := hHeld'; clear hHeld'
          clear hb ho hg hl ho9
          have hb := hb1; clear hb1
          try simp only [Act.put, List.setIfInBounds_toArray, List.set_cons_zero, List.set_cons_succ]
          refine wpAnyH_ready (rs := [14]) (by kernel_rfl) (by simp) ?_
          refine AllReadyH.cons (o := { dst := some 111, op := Op.call { callee := Callee.value (Operand.func 24), args := #[Operand.tmp 97, Operand.tmp 99, Operand.tmp 100, Operand.tmp 104, Operand.tmp 110], argTypes := #[9, 3, 3, 9, 26] }, type := 4, pos := "law.go:99", after := #[{ on := 0, ground := Ground.data }, { on := 2, ground := Ground.data }, { on := 3, ground := Ground.data }, { on := 7, ground := Ground.data }, { on := 13, ground := Ground.data }, { on := 13, ground := Ground.chain }], guard := none }) rfl (fun K hK => ?_) AllReadyH.nil
          go_simp
          (with_reducible refine (HVL.out _ _ _ (HT5.out.below hb) hA9).mono ?_)
          rintro e U9 ⟨rfl, hb9⟩
          try go_wp2_with fail
          have hb1 := below_step hb hb9
          refine hK.out _ _ (HCZ5.out _ hb1) (fun hHeld' => ?_)
          clear hK K hHeld
          have hHeld := hHeld'; clear hHeld'
          clear hb hb9 hA9
          have hb := hb1; clear hb1
          try simp only [Act.put, List.setIfInBounds_toArray, List.set_cons_zero, List.set_cons_succ]
          refine wpAnyH_take (i := 15) (oi := { dst := some 13, op := Op.assign (Operand.tmp 111), type := 4, pos := "law.go:99", after := #[{ on := 14, ground := Ground.data }, { on := 14, ground := Ground.chain }, { on := 0, ground := Ground.phase }, { on := 1, ground := Ground.phase }, { on := 2, ground := Ground.phase }, { on := 3, ground := Ground.phase }, { on := 4, ground := Ground.phase }, { on := 5, ground := Ground.phase }, { on := 6, ground := Ground.phase }, { on := 7, ground := Ground.phase }, { on := 8, ground := Ground.phase }, { on := 9, ground := Ground.phase }, { on := 10, ground := Ground.phase }, { on := 11, ground := Ground.phase }, { on := 12, ground := Ground.phase }, { on := 13, ground := Ground.phase }, { on := 14, ground := Ground.phase }], guard := none }) (v := ?vxn13_15) rfl (by kernel_rfl) (by kernel_rfl) (by kernel_rfl) (fun _ _ _ h => h) (Or.inl ⟨by rfl, ?yxn13_15⟩) hHeld ?txn13_15
          case yxn13_15 => (intro w hSw; try dsimp only at hSw); go_simp; try with_reducible rfl
          simp only [Act.put, List.setIfInBounds_toArray, List.set_cons_zero, List.set_cons_succ]
          refine wpAnyH_done (by kernel_rfl) ?_ _
          go_wp2_with fail
          have hbd := hb.drew; clear hb
          refine wp_region_held_drew (S := (fun v => v.cell? ⟨b, off + i, none⟩ = some (.string z))) (by kernel_rfl) (HCZ5.out _ hbd) (fun hHeld => ?_)
          refine wpAnyH_take (i := 0) (oi := { dst := some 112, op := Op.move (Operand.tmp 10), type := 26, pos := "law.go:100", after := #[], guard := none }) (v := ?vmn3_0) rfl (by kernel_rfl) (by kernel_rfl) (by kernel_rfl) (fun _ _ _ h => h) (Or.inl ⟨by rfl, ?ymn3_0⟩) (by assumption) ?tmn3_0
          case ymn3_0 => (intro w hSw; try dsimp only at hSw); go_simp; try with_reducible rfl
          simp only [Act.put, List.setIfInBounds_toArray, List.set_cons_zero, List.set_cons_succ]
          refine wpAnyH_take (i := 1) (oi := { dst := some 113, op := Op.call { callee := Callee.builtin Go.Builtin.len, args := #[Operand.tmp 112], argTypes := #[26] }, type := 3, pos := "law.go:100", after := #[{ on := 0, ground := Ground.data }], guard := none }) (v := ?vmn3_1) rfl (by kernel_rfl) (by kernel_rfl) (by kernel_rfl) (fun _ _ _ h => h) (Or.inl ⟨by rfl, ?ymn3_1⟩) (by assumption) ?tmn3_1
          case ymn3_1 => (intro w hSw; try dsimp only at hSw); go_simp; try with_reducible rfl
          simp only [Act.put, List.setIfInBounds_toArray, List.set_cons_zero, List.set_cons_succ]
          refine wpAnyH_take (i := 2) (oi := { dst := some 114, op := Op.binOp BinOp.gtr 3 (Operand.tmp 113) (Operand.const (Value.int IntKind.i64 0)) 3, type := 4, pos := "law.go:100", after := #[{ on := 1, ground := Ground.data }], guard := none }) (v := ?vmn3_2) rfl (by kernel_rfl) (by kernel_rfl) (by kernel_rfl) (fun _ _ _ h => h) (Or.inl ⟨by rfl, ?ymn3_2⟩) (by assumption) ?tmn3_2
          case ymn3_2 => (intro w hSw; try dsimp only at hSw); go_simp; try with_reducible rfl
          simp only [Act.put, List.setIfInBounds_toArray, List.set_cons_zero, List.set_cons_succ]
          refine wpAnyH_take (i := 3) (oi := { dst := some 115, op := Op.move (Operand.tmp 114), type := 4, pos := "law.go:100", after := #[{ on := 2, ground := Ground.data }], guard := none }) (v := ?vmn3_3) rfl (by kernel_rfl) (by kernel_rfl) (by kernel_rfl) (fun _ _ _ h => h) (Or.inl ⟨by rfl, ?ymn3_3⟩) (by assumption) ?tmn3_3
          case ymn3_3 => (intro w hSw; try dsimp only at hSw); go_simp; try with_reducible rfl
          simp only [Act.put, List.setIfInBounds_toArray, List.set_cons_zero, List.set_cons_succ]
          refine wpAnyH_take (i := 4) (oi := { dst := some 116, op := Op.move (Operand.tmp 6), type := 9, pos := "law.go:100", after := #[{ on := 3, ground := Ground.guard }], guard := some (3, true) }) (v := undef) rfl (by kernel_rfl) (by kernel_rfl) (by kernel_rfl) (fun _ _ _ h => h) (Or.inr ⟨by rfl, rfl⟩) (by assumption) ?_
          simp only [Act.put, List.setIfInBounds_toArray, List.set_cons_zero, List.set_cons_succ]
          refine wpAnyH_take (i := 5) (oi := { dst := some 117, op := Op.move (Operand.tmp 0), type := 26, pos := "law.go:100", after := #[{ on := 3, ground := Ground.guard }], guard := some (3, true) }) (v := undef) rfl (by kernel_rfl) (by kernel_rfl) (by kernel_rfl) (fun _ _ _ h => h) (Or.inr ⟨by rfl, rfl⟩) (by assumption) ?_
          simp only [Act.put, List.setIfInBounds_toArray, List.set_cons_zero, List.set_cons_succ]
          refine wpAnyH_take (i := 6) (oi := { dst := some 118, op := Op.call { callee := Callee.builtin Go.Builtin.len, args := #[Operand.tmp 117], argTypes := #[26] }, type := 3, pos := "law.go:100", after := #[{ on := 5, ground := Ground.data }, { on := 3, ground := Ground.guard }], guard := some (3, true) }) (v := undef) rfl (by kernel_rfl) (by kernel_rfl) (by kernel_rfl) (fun _ _ _ h => h) (Or.inr ⟨by rfl, rfl⟩) (by assumption) ?_
          simp only [Act.put, List.setIfInBounds_toArray, List.set_cons_zero, List.set_cons_succ]
          refine wpAnyH_take (i := 7) (oi := { dst := some 119, op := Op.move (Operand.tmp 1), type := 3, pos := "law.go:100", after := #[{ on := 3, ground := Ground.guard }], guard := some (3, true) }) (v := undef) rfl (by kernel_rfl) (by kernel_rfl) (by kernel_rfl) (fun _ _ _ h => h) (Or.inr ⟨by rfl, rfl⟩) (by assumption) ?_
          simp only [Act.put, List.setIfInBounds_toArray, List.set_cons_zero, List.set_cons_succ]
          refine wpAnyH_take (i := 8) (oi := { dst := some 120, op := Op.move (Operand.tmp 0), type := 26, pos := "law.go:100", after := #[{ on := 3, ground := Ground.guard }], guard := some (3, true) }) (v := undef) rfl (by kernel_rfl) (by kernel_rfl) (by kernel_rfl) (fun _ _ _ h => h) (Or.inr ⟨by rfl, rfl⟩) (by assumption) ?_
          simp only [Act.put, List.setIfInBounds_toArray, List.set_cons_zero, List.set_cons_succ]
          refine wpAnyH_take (i := 9) (oi := { dst := some 121, op := Op.move (Operand.tmp 1), type := 3, pos := "law.go:100", after := #[{ on := 3, ground := Ground.guard }], guard := some (3, true) }) (v := undef) rfl (by kernel_rfl) (by kernel_rfl) (by kernel_rfl) (fun _ _ _ h => h) (Or.inr ⟨by rfl, rfl⟩) (by assumption) ?_
          simp only [Act.put, List.setIfInBounds_toArray, List.set_cons_zero, List.set_cons_succ]
          refine wpAnyH_take (i := 10) (oi := { dst := some 122, op := Op.indexAddr 26 (Operand.tmp 120) (Operand.tmp 121), type := 0, pos := "law.go:100", after := #[{ on := 8, ground := Ground.data }, { on := 9, ground := Ground.data }, { on := 3, ground := Ground.guard }], guard := some (3, true) }) (v := undef) rfl (by kernel_rfl) (by kernel_rfl) (by kernel_rfl) (fun _ _ _ h => h) (Or.inr ⟨by rfl, rfl⟩) (by assumption) ?_
          simp only [Act.put, List.setIfInBounds_toArray, List.set_cons_zero, List.set_cons_succ]
          refine wpAnyH_take (i := 11) (oi := { dst := some 123, op := Op.load 9 (Operand.tmp 122), type := 9, pos := "law.go:100", after := #[{ on := 10, ground := Ground.data }, { on := 3, ground := Ground.guard }], guard := some (3, true) }) (v := undef) rfl (by kernel_rfl) (by kernel_rfl) (by kernel_rfl) (fun _ _ _ h => h) (Or.inr ⟨by rfl, rfl⟩) (by assumption) ?_
          simp only [Act.put, List.setIfInBounds_toArray, List.set_cons_zero, List.set_cons_succ]
          refine wpAnyH_take (i := 12) (oi := { dst := some 124, op := Op.move (Operand.tmp 10), type := 26, pos := "law.go:100", after := #[{ on := 3, ground := Ground.guard }], guard := some (3, true) }) (v := undef) rfl (by kernel_rfl) (by kernel_rfl) (by kernel_rfl) (fun _ _ _ h => h) (Or.inr ⟨by rfl, rfl⟩) (by assumption) ?_
          simp only [Act.put, List.setIfInBounds_toArray, List.set_cons_zero, List.set_cons_succ]
          refine wpAnyH_take (i := 13) (oi := { dst := some 125, op := Op.slice 26 (Operand.tmp 124) (some (Operand.const (Value.int IntKind.i64 1))) none none, type := 26, pos := "law.go:100", after := #[{ on := 12, ground := Ground.data }, { on := 3, ground := Ground.guard }], guard := some (3, true) }) (v := undef) rfl (by kernel_rfl) (by kernel_rfl) (by kernel_rfl) (fun _ _ _ h => h) (Or.inr ⟨by rfl, rfl⟩) (by assumption) ?_
          simp only [Act.put, List.setIfInBounds_toArray, List.set_cons_zero, List.set_cons_succ]
          refine wpAnyH_take (i := 14) (oi := { dst := some 126, op := Op.call { callee := Callee.value (Operand.func 24), args := #[Operand.tmp 116, Operand.tmp 118, Operand.tmp 119, Operand.tmp 123, Operand.tmp 125], argTypes := #[9, 3, 3, 9, 26] }, type := 4, pos := "law.go:100", after := #[{ on := 4, ground := Ground.data }, { on := 6, ground := Ground.data }, { on := 7, ground := Ground.data }, { on := 11, ground := Ground.data }, { on := 13, ground := Ground.data }, { on := 3, ground := Ground.chain }, { on := 3, ground := Ground.guard }], guard := some (3, true) }) (v := undef) rfl (by kernel_rfl) (by kernel_rfl) (by kernel_rfl) (fun _ _ _ h => h) (Or.inr ⟨by rfl, rfl⟩) (by assumption) ?_
          simp only [Act.put, List.setIfInBounds_toArray, List.set_cons_zero, List.set_cons_succ]
          refine wpAnyH_take (i := 15) (oi := { dst := some 127, op := Op.pick (Operand.tmp 115) (Operand.tmp 126) (Operand.const (Value.bool false)), type := 4, pos := "law.go:100", after := #[{ on := 3, ground := Ground.data }, { on := 14, ground := Ground.data }], guard := none }) (v := ?vmn3_15) rfl (by kernel_rfl) (by kernel_rfl) (by kernel_rfl) (fun _ _ _ h => h) (Or.inl ⟨by rfl, ?ymn3_15⟩) (by assumption) ?tmn3_15
          case ymn3_15 => (intro w hSw; try dsimp only at hSw); go_simp; try with_reducible rfl
          simp only [Act.put, List.setIfInBounds_toArray, List.set_cons_zero, List.set_cons_succ]
          refine wpAnyH_take (i := 16) (oi := { dst := some 14, op := Op.assign (Operand.tmp 127), type := 4, pos := "law.go:100", after := #[{ on := 15, ground := Ground.data }, { on := 14, ground := Ground.chain }, { on := 0, ground := Ground.phase }, { on := 1, ground := Ground.phase }, { on := 2, ground := Ground.phase }, { on := 3, ground := Ground.phase }, { on := 4, ground := Ground.phase }, { on := 5, ground := Ground.phase }, { on := 6, ground := Ground.phase }, { on := 7, ground := Ground.phase }, { on := 8, ground := Ground.phase }, { on := 9, ground := Ground.phase }, { on := 10, ground := Ground.phase }, { on := 11, ground := Ground.phase }, { on := 12, ground := Ground.phase }, { on := 13, ground := Ground.phase }, { on := 14, ground := Ground.phase }, { on := 15, ground := Ground.phase }], guard := none }) (v := ?vmn3_16) rfl (by kernel_rfl) (by kernel_rfl) (by kernel_rfl) (fun _ _ _ h => h) (Or.inl ⟨by rfl, ?ymn3_16⟩) (by assumption) ?tmn3_16
          case ymn3_16 => (intro w hSw; try dsimp only at hSw); go_simp; try with_reducible rfl
          simp only [Act.put, List.setIfInBounds_toArray, List.set_cons_zero, List.set_cons_succ]
          refine wpAnyH_done (by kernel_rfl) ?_ _
          go_wp2_with fail
          go_ret
          exact ⟨rfl, below_step H5.out.1.2.2 hbd⟩
        | some ad =>
          refine wp_region_held_drew (S := fun v => v.cell? ⟨b, off + i, none⟩ = some (.string z)) (by kernel_rfl) (HCZ5.out _ ((Below.refl _ _).drew)) (fun hHeld => ?_)
          obtain ⟨U0, hU⟩ : ∃ X, X = V5.drew := ⟨_, rfl⟩
          have hb : Below V5.heap.size V5 V5.drew := (Below.refl _ _).drew
          rw [← hU] at hb hHeld ⊢
          clear hU
          refine wpAnyH_take (i := 0) (oi := { dst := some 97, op := Op.move (Operand.tmp 6), type := 9, pos := "law.go:99", after := #[], guard := none }) (v := ?vxs1_0) rfl (by kernel_rfl) (by kernel_rfl) (by kernel_rfl) (fun _ _ _ h => h) (Or.inl ⟨by rfl, ?yxs1_0⟩) hHeld ?txs1_0
          case yxs1_0 => (intro w hSw; try dsimp only at hSw); go_simp; try with_reducible rfl
          simp only [Act.put, List.setIfInBounds_toArray, List.set_cons_zero, List.set_cons_succ]
          refine wpAnyH_take (i := 1) (oi := { dst := some 98, op := Op.move (Operand.tmp 0), type := 26, pos := "law.go:99", after := #[], guard := none }) (v := ?vxs2_1) rfl (by kernel_rfl) (by kernel_rfl) (by kernel_rfl) (fun _ _ _ h => h) (Or.inl ⟨by rfl, ?yxs2_1⟩) hHeld ?txs2_1
          case yxs2_1 => (intro w hSw; try dsimp only at hSw); go_simp; try with_reducible rfl
          simp only [Act.put, List.setIfInBounds_toArray, List.set_cons_zero, List.set_cons_succ]
          refine wpAnyH_take (i := 2) (oi := { dst := some 99, op := Op.call { callee := Callee.builtin Go.Builtin.len, args := #[Operand.tmp 98], argTypes := #[26] }, type := 3, pos := "law.go:99", after := #[{ on := 1, ground := Ground.data }], guard := none }) (v := ?vxs3_2) rfl (by kernel_rfl) (by kernel_rfl) (by kernel_rfl) (fun _ _ _ h => h) (Or.inl ⟨by rfl, ?yxs3_2⟩) hHeld ?txs3_2
          case yxs3_2 => (intro w hSw; try dsimp only at hSw); go_simp; try with_reducible rfl
          simp only [Act.put, List.setIfInBounds_toArray, List.set_cons_zero, List.set_cons_succ]
          refine wpAnyH_take (i := 3) (oi := { dst := some 100, op := Op.move (Operand.tmp 1), type := 3, pos := "law.go:99", after := #[], guard := none }) (v := ?vxs4_3) rfl (by kernel_rfl) (by kernel_rfl) (by kernel_rfl) (fun _ _ _ h => h) (Or.inl ⟨by rfl, ?yxs4_3⟩) hHeld ?txs4_3
          case yxs4_3 => (intro w hSw; try dsimp only at hSw); go_simp; try with_reducible rfl
          simp only [Act.put, List.setIfInBounds_toArray, List.set_cons_zero, List.set_cons_succ]
          refine wpAnyH_take (i := 4) (oi := { dst := some 101, op := Op.move (Operand.tmp 0), type := 26, pos := "law.go:99", after := #[], guard := none }) (v := ?vxs5_4) rfl (by kernel_rfl) (by kernel_rfl) (by kernel_rfl) (fun _ _ _ h => h) (Or.inl ⟨by rfl, ?yxs5_4⟩) hHeld ?txs5_4
          case yxs5_4 => (intro w hSw; try dsimp only at hSw); go_simp; try with_reducible rfl
          simp only [Act.put, List.setIfInBounds_toArray, List.set_cons_zero, List.set_cons_succ]
          refine wpAnyH_take (i := 5) (oi := { dst := some 102, op := Op.move (Operand.tmp 1), type := 3, pos := "law.go:99", after := #[], guard := none }) (v := ?vxs6_5) rfl (by kernel_rfl) (by kernel_rfl) (by kernel_rfl) (fun _ _ _ h => h) (Or.inl ⟨by rfl, ?yxs6_5⟩) hHeld ?txs6_5
          case yxs6_5 => (intro w hSw; try dsimp only at hSw); go_simp; try with_reducible rfl
          simp only [Act.put, List.setIfInBounds_toArray, List.set_cons_zero, List.set_cons_succ]
          refine wpAnyH_take (i := 6) (oi := { dst := some 103, op := Op.indexAddr 26 (Operand.tmp 101) (Operand.tmp 102), type := 0, pos := "law.go:99", after := #[{ on := 4, ground := Ground.data }, { on := 5, ground := Ground.data }], guard := none }) (v := ?vxs7_6) rfl (by kernel_rfl) (by kernel_rfl) (by kernel_rfl) (fun _ _ _ h => h) (Or.inl ⟨by rfl, ?yxs7_6⟩) hHeld ?txs7_6
          case yxs7_6 => (intro w hSw; try dsimp only at hSw); go_simp; try with_reducible rfl
          simp only [Act.put, List.setIfInBounds_toArray, List.set_cons_zero, List.set_cons_succ]
          refine wpAnyH_take (i := 7) (oi := { dst := some 104, op := Op.load 9 (Operand.tmp 103), type := 9, pos := "law.go:99", after := #[{ on := 6, ground := Ground.data }], guard := none }) (v := ?vxs8_7) rfl (by kernel_rfl) (by kernel_rfl) (by kernel_rfl) (fun _ _ _ h => h) (Or.inl ⟨by rfl, ?yxs8_7⟩) hHeld ?txs8_7
          case yxs8_7 => (intro w hSw; try dsimp only at hSw); go_simp; try with_reducible rfl
          simp only [Act.put, List.setIfInBounds_toArray, List.set_cons_zero, List.set_cons_succ]
          refine wpAnyH_take (i := 9) (oi := { dst := some 106, op := Op.move (Operand.tmp 10), type := 26, pos := "law.go:99", after := #[], guard := none }) (v := ?vxs9_9) rfl (by kernel_rfl) (by kernel_rfl) (by kernel_rfl) (fun _ _ _ h => h) (Or.inl ⟨by rfl, ?yxs9_9⟩) hHeld ?txs9_9
          case yxs9_9 => (intro w hSw; try dsimp only at hSw); go_simp; try with_reducible rfl
          simp only [Act.put, List.setIfInBounds_toArray, List.set_cons_zero, List.set_cons_succ]
          refine wpAnyH_take (i := 11) (oi := { dst := some 108, op := Op.move (Operand.tmp 6), type := 9, pos := "law.go:99", after := #[], guard := none }) (v := ?vxs10_11) rfl (by kernel_rfl) (by kernel_rfl) (by kernel_rfl) (fun _ _ _ h => h) (Or.inl ⟨by rfl, ?yxs10_11⟩) hHeld ?txs10_11
          case yxs10_11 => (intro w hSw; try dsimp only at hSw); go_simp; try with_reducible rfl
          simp only [Act.put, List.setIfInBounds_toArray, List.set_cons_zero, List.set_cons_succ]
          refine wpAnyH_ready (rs := [8, 12]) (by kernel_rfl) (by simp) ?_
          refine AllReadyH.cons (o := { dst := some 105, op := Op.buildSlice 26 0 #[], type := 26, pos := "law.go:99", after := #[], guard := none }) rfl (fun K hK => ?_) ?_
          · go_simp
            have hb1 : Below V5.heap.size V5 (U0.alloc (.cells #[] 9)) := hb.alloc hb.size _
            have ho1 : (U0.alloc (.cells #[] 9)).ownsRow V5.heap.size 9 1 (.slice (some ⟨U0.heap.size, 0, none⟩) 0 0) 0 [] := World.ownsRow_made U0 #[] 0 hb.size (by decide) rfl
            refine hK.out _ _ (HCZ5.out _ hb1) (fun hHeld' => ?_)
            clear hK K hHeld
            have hHeld := hHeld'; clear hHeld'
            obtain ⟨U1, hU⟩ : ∃ X, X = U0.alloc (.cells #[] 9) := ⟨_, rfl⟩
            rw [← hU] at hb1 ho1 hHeld ⊢
            clear hU
            clear hb
            have hb := hb1; have ho := ho1; clear hb1 ho1
            try simp only [Act.put, List.setIfInBounds_toArray, List.set_cons_zero, List.set_cons_succ]
            refine wpAnyH_ready (rs := [10, 12]) (by kernel_rfl) (by simp) ?_
            refine AllReadyH.cons (o := { dst := some 107, op := Op.call { callee := Callee.builtin Go.Builtin.append, args := #[Operand.tmp 105, Operand.tmp 106], argTypes := #[26, 26] }, type := 26, pos := "law.go:99", after := #[{ on := 8, ground := Ground.data }, { on := 9, ground := Ground.data }], guard := none }) rfl (fun K hK => ?_) ?_
            · rw [if_pos (show Region.wanted _ _ = true from rfl)]
              refine wp_append_own _ (.tmp 105) (.tmp 106) 26 rfl V5.heap.size 9 i0 (.string ⟨#[]⟩) 1 16 Tryd.underlying26 hi0 hz0 hz1 hz2 rfl (by decide) _ _ _ rfl ho ad X.length c5 (strV X) rfl (by simp [strV]) (hA5.below hb).news (strV_one X) (by unfold maxLen; have := HX1.out; omega) (by have := HX1.out; omega) hb.size ?_
              intro v1 U2 ho1 hg _
              have hb1 : Below V5.heap.size V5 U2 := hb.grown hg hb.size (fun k e => (ho.lt k e).1)
              rw [Nat.zero_add, List.nil_append] at ho1
              refine hK.out _ _ (HCZ5.out _ hb1) (fun hHeld' => ?_)
              clear hK K hHeld
              have hHeld := hHeld'; clear hHeld'
              clear hb ho hg
              have hb := hb1; have ho := ho1; clear hb1 ho1
              try simp only [Act.put, List.setIfInBounds_toArray, List.set_cons_zero, List.set_cons_succ]
              refine wpAnyH_ready (rs := [12]) (by kernel_rfl) (by simp) ?_
              refine AllReadyH.cons (o := { dst := some 109, op := Op.buildSlice 26 1 #[(0, Operand.tmp 108)], type := 26, pos := "law.go:99", after := #[{ on := 11, ground := Ground.data }], guard := none }) rfl (fun K hK => ?_) AllReadyH.nil
              go_simp
              have hb1 : Below V5.heap.size V5 (U2.alloc (.cells #[.string r2] 9)) := hb.alloc hb.size _
              have hl1 := OneCell.new U2 r2
              have ho1 := ho.alloc (.cells #[.string r2] 9)
              clear ho
              refine hK.out _ _ (HCZ5.out _ hb1) (fun hHeld' => ?_)
              clear hK K hHeld
              have hHeld := hHeld'; clear hHeld'
              obtain ⟨U3, hU⟩ : ∃ X, X = U2.alloc (.cells #[.string r2] 9) := ⟨_, rfl⟩
              rw [← hU] at hb1 hl1 ho1 hHeld ⊢
              clear hU
              clear hb
              have hb := hb1; have hl := hl1; clear hb1 hl1
              have ho := ho1; clear ho1
              try simp only [Act.put, List.setIfInBounds_toArray, List.set_cons_zero, List.set_cons_succ]
              refine wpAnyH_ready (rs := [13]) (by kernel_rfl) (by simp) ?_
              refine AllReadyH.cons (o := { dst := some 110, op := Op.call { callee := Callee.builtin Go.Builtin.append, args := #[Operand.tmp 107, Operand.tmp 109], argTypes := #[26, 26] }, type := 26, pos := "law.go:99", after := #[{ on := 10, ground := Ground.data }, { on := 12, ground := Ground.data }, { on := 10, ground := Ground.chain }], guard := none }) rfl (fun K hK => ?_) AllReadyH.nil
              rw [if_pos (show Region.wanted _ _ = true from rfl)]
              refine wp_append_own _ (.tmp 107) (.tmp 109) 26 rfl V5.heap.size 9 i0 (.string ⟨#[]⟩) 1 16 Tryd.underlying26 hi0 hz0 hz1 hz2 rfl (by decide) _ _ _ rfl ho ⟨U2.heap.size, 0, none⟩ 1 1 [.string r2] rfl rfl hl.2 (by simp [Value.oneCell']) (by unfold maxLen; have := HX1.out; omega) (by have := HX1.out; omega) hb.size ?_
              intro v9 U4 ho9 hg _
              have hb1 : Below V5.heap.size V5 U4 := hb.grown hg hb.size (fun k e => (ho.lt k e).1)
              obtain ⟨a9, c9, rfl, hA9⟩ := (show StrOwn U4 V5.heap.size v9 (X ++ [r2]) from by unfold StrOwn strV; rw [List.length_append, List.map_append]; first | exact ho9 | (rw [Nat.zero_add] at ho9; exact ho9)).arg
              rw [List.length_append, List.length_singleton]
              refine hK.out _ _ (HCZ5.out _ hb1) (fun hHeld' => ?_)
              clear hK K hHeld
              have hHeld := hHeld'; clear hHeld'
              clear hb ho hg hl ho9
              have hb := hb1; clear hb1
              try simp only [Act.put, List.setIfInBounds_toArray, List.set_cons_zero, List.set_cons_succ]
              refine wpAnyH_ready (rs := [14]) (by kernel_rfl) (by simp) ?_
              refine AllReadyH.cons (o := { dst := some 111, op := Op.call { callee := Callee.value (Operand.func 24), args := #[Operand.tmp 97, Operand.tmp 99, Operand.tmp 100, Operand.tmp 104, Operand.tmp 110], argTypes := #[9, 3, 3, 9, 26] }, type := 4, pos := "law.go:99", after := #[{ on := 0, ground := Ground.data }, { on := 2, ground := Ground.data }, { on := 3, ground := Ground.data }, { on := 7, ground := Ground.data }, { on := 13, ground := Ground.data }, { on := 13, ground := Ground.chain }], guard := none }) rfl (fun K hK => ?_) AllReadyH.nil
              go_simp
              (with_reducible refine (HVL.out _ _ _ (HT5.out.below hb) hA9).mono ?_)
              rintro e U9 ⟨rfl, hb9⟩
              try go_wp2_with fail
              have hb1 := below_step hb hb9
              refine hK.out _ _ (HCZ5.out _ hb1) (fun hHeld' => ?_)
              clear hK K hHeld
              have hHeld := hHeld'; clear hHeld'
              clear hb hb9 hA9
              have hb := hb1; clear hb1
              try simp only [Act.put, List.setIfInBounds_toArray, List.set_cons_zero, List.set_cons_succ]
              refine wpAnyH_take (i := 15) (oi := { dst := some 13, op := Op.assign (Operand.tmp 111), type := 4, pos := "law.go:99", after := #[{ on := 14, ground := Ground.data }, { on := 14, ground := Ground.chain }, { on := 0, ground := Ground.phase }, { on := 1, ground := Ground.phase }, { on := 2, ground := Ground.phase }, { on := 3, ground := Ground.phase }, { on := 4, ground := Ground.phase }, { on := 5, ground := Ground.phase }, { on := 6, ground := Ground.phase }, { on := 7, ground := Ground.phase }, { on := 8, ground := Ground.phase }, { on := 9, ground := Ground.phase }, { on := 10, ground := Ground.phase }, { on := 11, ground := Ground.phase }, { on := 12, ground := Ground.phase }, { on := 13, ground := Ground.phase }, { on := 14, ground := Ground.phase }], guard := none }) (v := ?vxs11_15) rfl (by kernel_rfl) (by kernel_rfl) (by kernel_rfl) (fun _ _ _ h => h) (Or.inl ⟨by rfl, ?yxs11_15⟩) hHeld ?txs11_15
              case yxs11_15 => (intro w hSw; try dsimp only at hSw); go_simp; try with_reducible rfl
              simp only [Act.put, List.setIfInBounds_toArray, List.set_cons_zero, List.set_cons_succ]
              refine wpAnyH_done (by kernel_rfl) ?_ _
              go_wp2_with fail
              by_cases h0 : 0 < X.length
              · obtain ⟨b5, o5, he5, _⟩ := hA5.place h0
                cases he5
                have hd1 : decide ((0 : Int) < (X.length : Int)) = true := decide_eq_true (by omega)
                have hd2 : (0 : Int) < (X.length : Int) := by omega
                have hk1 : (1 : Int) ≤ (X.length : Int) := by omega
                have hk2 : (X.length : Int) ≤ (c5 : Int) := by have := hA5.1; omega
                have hk3 : (1 : Int) ≤ (c5 : Int) := by omega
                have hk4 := hA5.2.1
                unfold maxLen at hk4
                by_cases hc1 : c5 = 1
                · have hx1 : X.length = 1 := by omega
                  subst hc1
                  have hD : ∀ V, StrA V (some ⟨b5, o5, none⟩) 0 (X.drop 1) := fun V => ⟨by rw [List.length_drop]; omega, by decide, fun j hj => absurd hj (by rw [List.length_drop]; omega)⟩
                  have HVS1 := Lib.hid (show ∀ V a' c', Tab V → StrA V a' c' (X.drop 1) → Calls Tryd.prog 24 #[.string r2, .int .i64 L.length, .int .i64 i, .string z, .slice a' 0 c'] V (BoolEnd false V) from fun V a' c' h hS => by have := HVS.out V a' c' h0 h hS; simpa only [hx1, Nat.sub_self] using this)
                  have hbd := hb.drew; clear hb
                  refine wp_region_held_drew (S := (fun v => v.cell? ⟨b, off + i, none⟩ = some (.string z))) (by kernel_rfl) (HCZ5.out _ hbd) (fun hHeld => ?_)
                  refine wpAnyH_take (i := 0) (oi := { dst := some 112, op := Op.move (Operand.tmp 10), type := 26, pos := "law.go:100", after := #[], guard := none }) (v := ?vqs1_0) rfl (by kernel_rfl) (by kernel_rfl) (by kernel_rfl) (fun _ _ _ h => h) (Or.inl ⟨by rfl, ?yqs1_0⟩) (by assumption) ?tqs1_0
                  case yqs1_0 => (intro w hSw; try dsimp only at hSw); go_simp; try with_reducible rfl
                  simp only [Act.put, List.setIfInBounds_toArray, List.set_cons_zero, List.set_cons_succ]
                  refine wpAnyH_take (i := 1) (oi := { dst := some 113, op := Op.call { callee := Callee.builtin Go.Builtin.len, args := #[Operand.tmp 112], argTypes := #[26] }, type := 3, pos := "law.go:100", after := #[{ on := 0, ground := Ground.data }], guard := none }) (v := ?vqs1_1) rfl (by kernel_rfl) (by kernel_rfl) (by kernel_rfl) (fun _ _ _ h => h) (Or.inl ⟨by rfl, ?yqs1_1⟩) (by assumption) ?tqs1_1
                  case yqs1_1 => (intro w hSw; try dsimp only at hSw); go_simp; try with_reducible rfl
                  simp only [Act.put, List.setIfInBounds_toArray, List.set_cons_zero, List.set_cons_succ]
                  refine wpAnyH_take (i := 2) (oi := { dst := some 114, op := Op.binOp BinOp.gtr 3 (Operand.tmp 113) (Operand.const (Value.int IntKind.i64 0)) 3, type := 4, pos := "law.go:100", after := #[{ on := 1, ground := Ground.data }], guard := none }) (v := ?vqs1_2) rfl (by kernel_rfl) (by kernel_rfl) (by kernel_rfl) (fun _ _ _ h => h) (Or.inl ⟨by rfl, ?yqs1_2⟩) (by assumption) ?tqs1_2
                  case yqs1_2 => (intro w hSw; try dsimp only at hSw); go_simp; try with_reducible rfl
                  simp only [Act.put, List.setIfInBounds_toArray, List.set_cons_zero, List.set_cons_succ]
                  refine wpAnyH_take (i := 3) (oi := { dst := some 115, op := Op.move (Operand.tmp 114), type := 4, pos := "law.go:100", after := #[{ on := 2, ground := Ground.data }], guard := none }) (v := ?vqs1_3) rfl (by kernel_rfl) (by kernel_rfl) (by kernel_rfl) (fun _ _ _ h => h) (Or.inl ⟨by rfl, ?yqs1_3⟩) (by assumption) ?tqs1_3
                  case yqs1_3 => (intro w hSw; try dsimp only at hSw); go_simp; try with_reducible rfl
                  simp only [Act.put, List.setIfInBounds_toArray, List.set_cons_zero, List.set_cons_succ]
                  refine wpAnyH_take (i := 4) (oi := { dst := some 116, op := Op.move (Operand.tmp 6), type := 9, pos := "law.go:100", after := #[{ on := 3, ground := Ground.guard }], guard := some (3, true) }) (v := ?vqs1_4) rfl (by kernel_rfl) (by kernel_rfl) (by kernel_rfl) (fun _ _ _ h => h) (Or.inl ⟨by rfl, ?yqs1_4⟩) (by assumption) ?tqs1_4
                  case yqs1_4 => (intro w hSw; try dsimp only at hSw); go_simp; try with_reducible rfl
                  simp only [Act.put, List.setIfInBounds_toArray, List.set_cons_zero, List.set_cons_succ]
                  refine wpAnyH_take (i := 5) (oi := { dst := some 117, op := Op.move (Operand.tmp 0), type := 26, pos := "law.go:100", after := #[{ on := 3, ground := Ground.guard }], guard := some (3, true) }) (v := ?vqs1_5) rfl (by kernel_rfl) (by kernel_rfl) (by kernel_rfl) (fun _ _ _ h => h) (Or.inl ⟨by rfl, ?yqs1_5⟩) (by assumption) ?tqs1_5
                  case yqs1_5 => (intro w hSw; try dsimp only at hSw); go_simp; try with_reducible rfl
                  simp only [Act.put, List.setIfInBounds_toArray, List.set_cons_zero, List.set_cons_succ]
                  refine wpAnyH_take (i := 6) (oi := { dst := some 118, op := Op.call { callee := Callee.builtin Go.Builtin.len, args := #[Operand.tmp 117], argTypes := #[26] }, type := 3, pos := "law.go:100", after := #[{ on := 5, ground := Ground.data }, { on := 3, ground := Ground.guard }], guard := some (3, true) }) (v := ?vqs1_6) rfl (by kernel_rfl) (by kernel_rfl) (by kernel_rfl) (fun _ _ _ h => h) (Or.inl ⟨by rfl, ?yqs1_6⟩) (by assumption) ?tqs1_6
                  case yqs1_6 => (intro w hSw; try dsimp only at hSw); go_simp; try with_reducible rfl
                  simp only [Act.put, List.setIfInBounds_toArray, List.set_cons_zero, List.set_cons_succ]
                  refine wpAnyH_take (i := 7) (oi := { dst := some 119, op := Op.move (Operand.tmp 1), type := 3, pos := "law.go:100", after := #[{ on := 3, ground := Ground.guard }], guard := some (3, true) }) (v := ?vqs1_7) rfl (by kernel_rfl) (by kernel_rfl) (by kernel_rfl) (fun _ _ _ h => h) (Or.inl ⟨by rfl, ?yqs1_7⟩) (by assumption) ?tqs1_7
                  case yqs1_7 => (intro w hSw; try dsimp only at hSw); go_simp; try with_reducible rfl
                  simp only [Act.put, List.setIfInBounds_toArray, List.set_cons_zero, List.set_cons_succ]
                  refine wpAnyH_take (i := 8) (oi := { dst := some 120, op := Op.move (Operand.tmp 0), type := 26, pos := "law.go:100", after := #[{ on := 3, ground := Ground.guard }], guard := some (3, true) }) (v := ?vqs1_8) rfl (by kernel_rfl) (by kernel_rfl) (by kernel_rfl) (fun _ _ _ h => h) (Or.inl ⟨by rfl, ?yqs1_8⟩) (by assumption) ?tqs1_8
                  case yqs1_8 => (intro w hSw; try dsimp only at hSw); go_simp; try with_reducible rfl
                  simp only [Act.put, List.setIfInBounds_toArray, List.set_cons_zero, List.set_cons_succ]
                  refine wpAnyH_take (i := 9) (oi := { dst := some 121, op := Op.move (Operand.tmp 1), type := 3, pos := "law.go:100", after := #[{ on := 3, ground := Ground.guard }], guard := some (3, true) }) (v := ?vqs1_9) rfl (by kernel_rfl) (by kernel_rfl) (by kernel_rfl) (fun _ _ _ h => h) (Or.inl ⟨by rfl, ?yqs1_9⟩) (by assumption) ?tqs1_9
                  case yqs1_9 => (intro w hSw; try dsimp only at hSw); go_simp; try with_reducible rfl
                  simp only [Act.put, List.setIfInBounds_toArray, List.set_cons_zero, List.set_cons_succ]
                  refine wpAnyH_take (i := 10) (oi := { dst := some 122, op := Op.indexAddr 26 (Operand.tmp 120) (Operand.tmp 121), type := 0, pos := "law.go:100", after := #[{ on := 8, ground := Ground.data }, { on := 9, ground := Ground.data }, { on := 3, ground := Ground.guard }], guard := some (3, true) }) (v := ?vqs1_10) rfl (by kernel_rfl) (by kernel_rfl) (by kernel_rfl) (fun _ _ _ h => h) (Or.inl ⟨by rfl, ?yqs1_10⟩) (by assumption) ?tqs1_10
                  case yqs1_10 => (intro w hSw; try dsimp only at hSw); go_simp; try with_reducible rfl
                  simp only [Act.put, List.setIfInBounds_toArray, List.set_cons_zero, List.set_cons_succ]
                  refine wpAnyH_take (i := 11) (oi := { dst := some 123, op := Op.load 9 (Operand.tmp 122), type := 9, pos := "law.go:100", after := #[{ on := 10, ground := Ground.data }, { on := 3, ground := Ground.guard }], guard := some (3, true) }) (v := ?vqs1_11) rfl (by kernel_rfl) (by kernel_rfl) (by kernel_rfl) (fun _ _ _ h => h) (Or.inl ⟨by rfl, ?yqs1_11⟩) (by assumption) ?tqs1_11
                  case yqs1_11 => (intro w hSw; try dsimp only at hSw); go_simp; try with_reducible rfl
                  simp only [Act.put, List.setIfInBounds_toArray, List.set_cons_zero, List.set_cons_succ]
                  refine wpAnyH_take (i := 12) (oi := { dst := some 124, op := Op.move (Operand.tmp 10), type := 26, pos := "law.go:100", after := #[{ on := 3, ground := Ground.guard }], guard := some (3, true) }) (v := ?vqs1_12) rfl (by kernel_rfl) (by kernel_rfl) (by kernel_rfl) (fun _ _ _ h => h) (Or.inl ⟨by rfl, ?yqs1_12⟩) (by assumption) ?tqs1_12
                  case yqs1_12 => (intro w hSw; try dsimp only at hSw); go_simp; try with_reducible rfl
                  simp only [Act.put, List.setIfInBounds_toArray, List.set_cons_zero, List.set_cons_succ]
                  refine wpAnyH_take (i := 13) (oi := { dst := some 125, op := Op.slice 26 (Operand.tmp 124) (some (Operand.const (Value.int IntKind.i64 1))) none none, type := 26, pos := "law.go:100", after := #[{ on := 12, ground := Ground.data }, { on := 3, ground := Ground.guard }], guard := some (3, true) }) (v := ?vqs1_13) rfl (by kernel_rfl) (by kernel_rfl) (by kernel_rfl) (fun _ _ _ h => h) (Or.inl ⟨by rfl, ?yqs1_13⟩) (by assumption) ?tqs1_13
                  case yqs1_13 => (intro w hSw; try dsimp only at hSw); go_simp; try with_reducible rfl
                  simp only [Act.put, List.setIfInBounds_toArray, List.set_cons_zero, List.set_cons_succ]
                  refine wpAnyH_ready (rs := [14]) (by kernel_rfl) (by simp) ?_
                  refine AllReadyH.cons (o := { dst := some 126, op := Op.call { callee := Callee.value (Operand.func 24), args := #[Operand.tmp 116, Operand.tmp 118, Operand.tmp 119, Operand.tmp 123, Operand.tmp 125], argTypes := #[9, 3, 3, 9, 26] }, type := 4, pos := "law.go:100", after := #[{ on := 4, ground := Ground.data }, { on := 6, ground := Ground.data }, { on := 7, ground := Ground.data }, { on := 11, ground := Ground.data }, { on := 13, ground := Ground.data }, { on := 3, ground := Ground.chain }, { on := 3, ground := Ground.guard }], guard := some (3, true) }) rfl (fun K hK => ?_) AllReadyH.nil
                  go_simp
                  (with_reducible refine (HVS1.out _ _ _ (HT5.out.below hbd) ((fun V (_ : Below V5.heap.size V5 V) => hD V) _ hbd)).mono ?_)
                  rintro e U10 ⟨rfl, hb10⟩
                  try go_wp2_with fail
                  have hb1 := below_step hbd hb10
                  refine hK.out _ _ (HCZ5.out _ hb1) (fun hHeld' => ?_)
                  clear hK K hHeld
                  have hHeld := hHeld'; clear hHeld'
                  try simp only [Act.put, List.setIfInBounds_toArray, List.set_cons_zero, List.set_cons_succ]
                  refine wpAnyH_take (i := 15) (oi := { dst := some 127, op := Op.pick (Operand.tmp 115) (Operand.tmp 126) (Operand.const (Value.bool false)), type := 4, pos := "law.go:100", after := #[{ on := 3, ground := Ground.data }, { on := 14, ground := Ground.data }], guard := none }) (v := ?vqs1_15) rfl (by kernel_rfl) (by kernel_rfl) (by kernel_rfl) (fun _ _ _ h => h) (Or.inl ⟨by rfl, ?yqs1_15⟩) (by assumption) ?tqs1_15
                  case yqs1_15 => (intro w hSw; try dsimp only at hSw); go_simp; try with_reducible rfl
                  simp only [Act.put, List.setIfInBounds_toArray, List.set_cons_zero, List.set_cons_succ]
                  refine wpAnyH_take (i := 16) (oi := { dst := some 14, op := Op.assign (Operand.tmp 127), type := 4, pos := "law.go:100", after := #[{ on := 15, ground := Ground.data }, { on := 14, ground := Ground.chain }, { on := 0, ground := Ground.phase }, { on := 1, ground := Ground.phase }, { on := 2, ground := Ground.phase }, { on := 3, ground := Ground.phase }, { on := 4, ground := Ground.phase }, { on := 5, ground := Ground.phase }, { on := 6, ground := Ground.phase }, { on := 7, ground := Ground.phase }, { on := 8, ground := Ground.phase }, { on := 9, ground := Ground.phase }, { on := 10, ground := Ground.phase }, { on := 11, ground := Ground.phase }, { on := 12, ground := Ground.phase }, { on := 13, ground := Ground.phase }, { on := 14, ground := Ground.phase }, { on := 15, ground := Ground.phase }], guard := none }) (v := ?vqs1_16) rfl (by kernel_rfl) (by kernel_rfl) (by kernel_rfl) (fun _ _ _ h => h) (Or.inl ⟨by rfl, ?yqs1_16⟩) (by assumption) ?tqs1_16
                  case yqs1_16 => (intro w hSw; try dsimp only at hSw); go_simp; try with_reducible rfl
                  simp only [Act.put, List.setIfInBounds_toArray, List.set_cons_zero, List.set_cons_succ]
                  refine wpAnyH_done (by kernel_rfl) ?_ _
                  go_wp2_with fail
                  go_ret
                  exact ⟨rfl, below_step H5.out.1.2.2 hb1⟩
                · have hc2 : (c5 == 1) = false := by simp; omega
                  have hD : ∀ V, Below V5.heap.size V5 V → StrA V (some ⟨b5, o5 + 1, none⟩) (c5 - 1) (X.drop 1) := fun V hb => (hA5.below hb).drop 1
                  have hbd := hb.drew; clear hb
                  refine wp_region_held_drew (S := (fun v => v.cell? ⟨b, off + i, none⟩ = some (.string z))) (by kernel_rfl) (HCZ5.out _ hbd) (fun hHeld => ?_)
                  refine wpAnyH_take (i := 0) (oi := { dst := some 112, op := Op.move (Operand.tmp 10), type := 26, pos := "law.go:100", after := #[], guard := none }) (v := ?vps1_0) rfl (by kernel_rfl) (by kernel_rfl) (by kernel_rfl) (fun _ _ _ h => h) (Or.inl ⟨by rfl, ?yps1_0⟩) (by assumption) ?tps1_0
                  case yps1_0 => (intro w hSw; try dsimp only at hSw); go_simp; try with_reducible rfl
                  simp only [Act.put, List.setIfInBounds_toArray, List.set_cons_zero, List.set_cons_succ]
                  refine wpAnyH_take (i := 1) (oi := { dst := some 113, op := Op.call { callee := Callee.builtin Go.Builtin.len, args := #[Operand.tmp 112], argTypes := #[26] }, type := 3, pos := "law.go:100", after := #[{ on := 0, ground := Ground.data }], guard := none }) (v := ?vps1_1) rfl (by kernel_rfl) (by kernel_rfl) (by kernel_rfl) (fun _ _ _ h => h) (Or.inl ⟨by rfl, ?yps1_1⟩) (by assumption) ?tps1_1
                  case yps1_1 => (intro w hSw; try dsimp only at hSw); go_simp; try with_reducible rfl
                  simp only [Act.put, List.setIfInBounds_toArray, List.set_cons_zero, List.set_cons_succ]
                  refine wpAnyH_take (i := 2) (oi := { dst := some 114, op := Op.binOp BinOp.gtr 3 (Operand.tmp 113) (Operand.const (Value.int IntKind.i64 0)) 3, type := 4, pos := "law.go:100", after := #[{ on := 1, ground := Ground.data }], guard := none }) (v := ?vps1_2) rfl (by kernel_rfl) (by kernel_rfl) (by kernel_rfl) (fun _ _ _ h => h) (Or.inl ⟨by rfl, ?yps1_2⟩) (by assumption) ?tps1_2
                  case yps1_2 => (intro w hSw; try dsimp only at hSw); go_simp; try with_reducible rfl
                  simp only [Act.put, List.setIfInBounds_toArray, List.set_cons_zero, List.set_cons_succ]
                  refine wpAnyH_take (i := 3) (oi := { dst := some 115, op := Op.move (Operand.tmp 114), type := 4, pos := "law.go:100", after := #[{ on := 2, ground := Ground.data }], guard := none }) (v := ?vps1_3) rfl (by kernel_rfl) (by kernel_rfl) (by kernel_rfl) (fun _ _ _ h => h) (Or.inl ⟨by rfl, ?yps1_3⟩) (by assumption) ?tps1_3
                  case yps1_3 => (intro w hSw; try dsimp only at hSw); go_simp; try with_reducible rfl
                  simp only [Act.put, List.setIfInBounds_toArray, List.set_cons_zero, List.set_cons_succ]
                  refine wpAnyH_take (i := 4) (oi := { dst := some 116, op := Op.move (Operand.tmp 6), type := 9, pos := "law.go:100", after := #[{ on := 3, ground := Ground.guard }], guard := some (3, true) }) (v := ?vps1_4) rfl (by kernel_rfl) (by kernel_rfl) (by kernel_rfl) (fun _ _ _ h => h) (Or.inl ⟨by rfl, ?yps1_4⟩) (by assumption) ?tps1_4
                  case yps1_4 => (intro w hSw; try dsimp only at hSw); go_simp; try with_reducible rfl
                  simp only [Act.put, List.setIfInBounds_toArray, List.set_cons_zero, List.set_cons_succ]
                  refine wpAnyH_take (i := 5) (oi := { dst := some 117, op := Op.move (Operand.tmp 0), type := 26, pos := "law.go:100", after := #[{ on := 3, ground := Ground.guard }], guard := some (3, true) }) (v := ?vps1_5) rfl (by kernel_rfl) (by kernel_rfl) (by kernel_rfl) (fun _ _ _ h => h) (Or.inl ⟨by rfl, ?yps1_5⟩) (by assumption) ?tps1_5
                  case yps1_5 => (intro w hSw; try dsimp only at hSw); go_simp; try with_reducible rfl
                  simp only [Act.put, List.setIfInBounds_toArray, List.set_cons_zero, List.set_cons_succ]
                  refine wpAnyH_take (i := 6) (oi := { dst := some 118, op := Op.call { callee := Callee.builtin Go.Builtin.len, args := #[Operand.tmp 117], argTypes := #[26] }, type := 3, pos := "law.go:100", after := #[{ on := 5, ground := Ground.data }, { on := 3, ground := Ground.guard }], guard := some (3, true) }) (v := ?vps1_6) rfl (by kernel_rfl) (by kernel_rfl) (by kernel_rfl) (fun _ _ _ h => h) (Or.inl ⟨by rfl, ?yps1_6⟩) (by assumption) ?tps1_6
                  case yps1_6 => (intro w hSw; try dsimp only at hSw); go_simp; try with_reducible rfl
                  simp only [Act.put, List.setIfInBounds_toArray, List.set_cons_zero, List.set_cons_succ]
                  refine wpAnyH_take (i := 7) (oi := { dst := some 119, op := Op.move (Operand.tmp 1), type := 3, pos := "law.go:100", after := #[{ on := 3, ground := Ground.guard }], guard := some (3, true) }) (v := ?vps1_7) rfl (by kernel_rfl) (by kernel_rfl) (by kernel_rfl) (fun _ _ _ h => h) (Or.inl ⟨by rfl, ?yps1_7⟩) (by assumption) ?tps1_7
                  case yps1_7 => (intro w hSw; try dsimp only at hSw); go_simp; try with_reducible rfl
                  simp only [Act.put, List.setIfInBounds_toArray, List.set_cons_zero, List.set_cons_succ]
                  refine wpAnyH_take (i := 8) (oi := { dst := some 120, op := Op.move (Operand.tmp 0), type := 26, pos := "law.go:100", after := #[{ on := 3, ground := Ground.guard }], guard := some (3, true) }) (v := ?vps1_8) rfl (by kernel_rfl) (by kernel_rfl) (by kernel_rfl) (fun _ _ _ h => h) (Or.inl ⟨by rfl, ?yps1_8⟩) (by assumption) ?tps1_8
                  case yps1_8 => (intro w hSw; try dsimp only at hSw); go_simp; try with_reducible rfl
                  simp only [Act.put, List.setIfInBounds_toArray, List.set_cons_zero, List.set_cons_succ]
                  refine wpAnyH_take (i := 9) (oi := { dst := some 121, op := Op.move (Operand.tmp 1), type := 3, pos := "law.go:100", after := #[{ on := 3, ground := Ground.guard }], guard := some (3, true) }) (v := ?vps1_9) rfl (by kernel_rfl) (by kernel_rfl) (by kernel_rfl) (fun _ _ _ h => h) (Or.inl ⟨by rfl, ?yps1_9⟩) (by assumption) ?tps1_9
                  case yps1_9 => (intro w hSw; try dsimp only at hSw); go_simp; try with_reducible rfl
                  simp only [Act.put, List.setIfInBounds_toArray, List.set_cons_zero, List.set_cons_succ]
                  refine wpAnyH_take (i := 10) (oi := { dst := some 122, op := Op.indexAddr 26 (Operand.tmp 120) (Operand.tmp 121), type := 0, pos := "law.go:100", after := #[{ on := 8, ground := Ground.data }, { on := 9, ground := Ground.data }, { on := 3, ground := Ground.guard }], guard := some (3, true) }) (v := ?vps1_10) rfl (by kernel_rfl) (by kernel_rfl) (by kernel_rfl) (fun _ _ _ h => h) (Or.inl ⟨by rfl, ?yps1_10⟩) (by assumption) ?tps1_10
                  case yps1_10 => (intro w hSw; try dsimp only at hSw); go_simp; try with_reducible rfl
                  simp only [Act.put, List.setIfInBounds_toArray, List.set_cons_zero, List.set_cons_succ]
                  refine wpAnyH_take (i := 11) (oi := { dst := some 123, op := Op.load 9 (Operand.tmp 122), type := 9, pos := "law.go:100", after := #[{ on := 10, ground := Ground.data }, { on := 3, ground := Ground.guard }], guard := some (3, true) }) (v := ?vps1_11) rfl (by kernel_rfl) (by kernel_rfl) (by kernel_rfl) (fun _ _ _ h => h) (Or.inl ⟨by rfl, ?yps1_11⟩) (by assumption) ?tps1_11
                  case yps1_11 => (intro w hSw; try dsimp only at hSw); go_simp; try with_reducible rfl
                  simp only [Act.put, List.setIfInBounds_toArray, List.set_cons_zero, List.set_cons_succ]
                  refine wpAnyH_take (i := 12) (oi := { dst := some 124, op := Op.move (Operand.tmp 10), type := 26, pos := "law.go:100", after := #[{ on := 3, ground := Ground.guard }], guard := some (3, true) }) (v := ?vps1_12) rfl (by kernel_rfl) (by kernel_rfl) (by kernel_rfl) (fun _ _ _ h => h) (Or.inl ⟨by rfl, ?yps1_12⟩) (by assumption) ?tps1_12
                  case yps1_12 => (intro w hSw; try dsimp only at hSw); go_simp; try with_reducible rfl
                  simp only [Act.put, List.setIfInBounds_toArray, List.set_cons_zero, List.set_cons_succ]
                  refine wpAnyH_take (i := 13) (oi := { dst := some 125, op := Op.slice 26 (Operand.tmp 124) (some (Operand.const (Value.int IntKind.i64 1))) none none, type := 26, pos := "law.go:100", after := #[{ on := 12, ground := Ground.data }, { on := 3, ground := Ground.guard }], guard := some (3, true) }) (v := ?vps1_13) rfl (by kernel_rfl) (by kernel_rfl) (by kernel_rfl) (fun _ _ _ h => h) (Or.inl ⟨by rfl, ?yps1_13⟩) (by assumption) ?tps1_13
                  case yps1_13 => (intro w hSw; try dsimp only at hSw); go_simp; try with_reducible rfl
                  simp only [Act.put, List.setIfInBounds_toArray, List.set_cons_zero, List.set_cons_succ]
                  refine wpAnyH_ready (rs := [14]) (by kernel_rfl) (by simp) ?_
                  refine AllReadyH.cons (o := { dst := some 126, op := Op.call { callee := Callee.value (Operand.func 24), args := #[Operand.tmp 116, Operand.tmp 118, Operand.tmp 119, Operand.tmp 123, Operand.tmp 125], argTypes := #[9, 3, 3, 9, 26] }, type := 4, pos := "law.go:100", after := #[{ on := 4, ground := Ground.data }, { on := 6, ground := Ground.data }, { on := 7, ground := Ground.data }, { on := 11, ground := Ground.data }, { on := 13, ground := Ground.data }, { on := 3, ground := Ground.chain }, { on := 3, ground := Ground.guard }], guard := some (3, true) }) rfl (fun K hK => ?_) AllReadyH.nil
                  go_simp
                  (with_reducible refine (HVS.out _ _ _ h0 (HT5.out.below hbd) (hD _ hbd)).mono ?_)
                  rintro e U10 ⟨rfl, hb10⟩
                  try go_wp2_with fail
                  have hb1 := below_step hbd hb10
                  refine hK.out _ _ (HCZ5.out _ hb1) (fun hHeld' => ?_)
                  clear hK K hHeld
                  have hHeld := hHeld'; clear hHeld'
                  try simp only [Act.put, List.setIfInBounds_toArray, List.set_cons_zero, List.set_cons_succ]
                  refine wpAnyH_take (i := 15) (oi := { dst := some 127, op := Op.pick (Operand.tmp 115) (Operand.tmp 126) (Operand.const (Value.bool false)), type := 4, pos := "law.go:100", after := #[{ on := 3, ground := Ground.data }, { on := 14, ground := Ground.data }], guard := none }) (v := ?vps1_15) rfl (by kernel_rfl) (by kernel_rfl) (by kernel_rfl) (fun _ _ _ h => h) (Or.inl ⟨by rfl, ?yps1_15⟩) (by assumption) ?tps1_15
                  case yps1_15 => (intro w hSw; try dsimp only at hSw); go_simp; try with_reducible rfl
                  simp only [Act.put, List.setIfInBounds_toArray, List.set_cons_zero, List.set_cons_succ]
                  refine wpAnyH_take (i := 16) (oi := { dst := some 14, op := Op.assign (Operand.tmp 127), type := 4, pos := "law.go:100", after := #[{ on := 15, ground := Ground.data }, { on := 14, ground := Ground.chain }, { on := 0, ground := Ground.phase }, { on := 1, ground := Ground.phase }, { on := 2, ground := Ground.phase }, { on := 3, ground := Ground.phase }, { on := 4, ground := Ground.phase }, { on := 5, ground := Ground.phase }, { on := 6, ground := Ground.phase }, { on := 7, ground := Ground.phase }, { on := 8, ground := Ground.phase }, { on := 9, ground := Ground.phase }, { on := 10, ground := Ground.phase }, { on := 11, ground := Ground.phase }, { on := 12, ground := Ground.phase }, { on := 13, ground := Ground.phase }, { on := 14, ground := Ground.phase }, { on := 15, ground := Ground.phase }], guard := none }) (v := ?vps1_16) rfl (by kernel_rfl) (by kernel_rfl) (by kernel_rfl) (fun _ _ _ h => h) (Or.inl ⟨by rfl, ?yps1_16⟩) (by assumption) ?tps1_16
                  case yps1_16 => (intro w hSw; try dsimp only at hSw); go_simp; try with_reducible rfl
                  simp only [Act.put, List.setIfInBounds_toArray, List.set_cons_zero, List.set_cons_succ]
                  refine wpAnyH_done (by kernel_rfl) ?_ _
                  go_wp2_with fail
                  go_ret
                  exact ⟨rfl, below_step H5.out.1.2.2 hb1⟩
              · have hd0 : decide ((0 : Int) < (X.length : Int)) = false := decide_eq_false (by omega)
                have hd2 : ¬ ((0 : Int) < (X.length : Int)) := by omega
                have hx0 : X.length = 0 := by omega
                have hbd := hb.drew; clear hb
                refine wp_region_held_drew (S := (fun v => v.cell? ⟨b, off + i, none⟩ = some (.string z))) (by kernel_rfl) (HCZ5.out _ hbd) (fun hHeld => ?_)
                refine wpAnyH_take (i := 0) (oi := { dst := some 112, op := Op.move (Operand.tmp 10), type := 26, pos := "law.go:100", after := #[], guard := none }) (v := ?vcs1_0) rfl (by kernel_rfl) (by kernel_rfl) (by kernel_rfl) (fun _ _ _ h => h) (Or.inl ⟨by rfl, ?ycs1_0⟩) (by assumption) ?tcs1_0
                case ycs1_0 => (intro w hSw; try dsimp only at hSw); go_simp; try with_reducible rfl
                simp only [Act.put, List.setIfInBounds_toArray, List.set_cons_zero, List.set_cons_succ]
                refine wpAnyH_take (i := 1) (oi := { dst := some 113, op := Op.call { callee := Callee.builtin Go.Builtin.len, args := #[Operand.tmp 112], argTypes := #[26] }, type := 3, pos := "law.go:100", after := #[{ on := 0, ground := Ground.data }], guard := none }) (v := ?vcs1_1) rfl (by kernel_rfl) (by kernel_rfl) (by kernel_rfl) (fun _ _ _ h => h) (Or.inl ⟨by rfl, ?ycs1_1⟩) (by assumption) ?tcs1_1
                case ycs1_1 => (intro w hSw; try dsimp only at hSw); go_simp; try with_reducible rfl
                simp only [Act.put, List.setIfInBounds_toArray, List.set_cons_zero, List.set_cons_succ]
                refine wpAnyH_take (i := 2) (oi := { dst := some 114, op := Op.binOp BinOp.gtr 3 (Operand.tmp 113) (Operand.const (Value.int IntKind.i64 0)) 3, type := 4, pos := "law.go:100", after := #[{ on := 1, ground := Ground.data }], guard := none }) (v := ?vcs1_2) rfl (by kernel_rfl) (by kernel_rfl) (by kernel_rfl) (fun _ _ _ h => h) (Or.inl ⟨by rfl, ?ycs1_2⟩) (by assumption) ?tcs1_2
                case ycs1_2 => (intro w hSw; try dsimp only at hSw); go_simp; try with_reducible rfl
                simp only [Act.put, List.setIfInBounds_toArray, List.set_cons_zero, List.set_cons_succ]
                refine wpAnyH_take (i := 3) (oi := { dst := some 115, op := Op.move (Operand.tmp 114), type := 4, pos := "law.go:100", after := #[{ on := 2, ground := Ground.data }], guard := none }) (v := ?vcs1_3) rfl (by kernel_rfl) (by kernel_rfl) (by kernel_rfl) (fun _ _ _ h => h) (Or.inl ⟨by rfl, ?ycs1_3⟩) (by assumption) ?tcs1_3
                case ycs1_3 => (intro w hSw; try dsimp only at hSw); go_simp; try with_reducible rfl
                simp only [Act.put, List.setIfInBounds_toArray, List.set_cons_zero, List.set_cons_succ]
                refine wpAnyH_take (i := 4) (oi := { dst := some 116, op := Op.move (Operand.tmp 6), type := 9, pos := "law.go:100", after := #[{ on := 3, ground := Ground.guard }], guard := some (3, true) }) (v := undef) rfl (by kernel_rfl) (by kernel_rfl) (by kernel_rfl) (fun _ _ _ h => h) (Or.inr ⟨by rfl, rfl⟩) (by assumption) ?_
                simp only [Act.put, List.setIfInBounds_toArray, List.set_cons_zero, List.set_cons_succ]
                refine wpAnyH_take (i := 5) (oi := { dst := some 117, op := Op.move (Operand.tmp 0), type := 26, pos := "law.go:100", after := #[{ on := 3, ground := Ground.guard }], guard := some (3, true) }) (v := undef) rfl (by kernel_rfl) (by kernel_rfl) (by kernel_rfl) (fun _ _ _ h => h) (Or.inr ⟨by rfl, rfl⟩) (by assumption) ?_
                simp only [Act.put, List.setIfInBounds_toArray, List.set_cons_zero, List.set_cons_succ]
                refine wpAnyH_take (i := 6) (oi := { dst := some 118, op := Op.call { callee := Callee.builtin Go.Builtin.len, args := #[Operand.tmp 117], argTypes := #[26] }, type := 3, pos := "law.go:100", after := #[{ on := 5, ground := Ground.data }, { on := 3, ground := Ground.guard }], guard := some (3, true) }) (v := undef) rfl (by kernel_rfl) (by kernel_rfl) (by kernel_rfl) (fun _ _ _ h => h) (Or.inr ⟨by rfl, rfl⟩) (by assumption) ?_
                simp only [Act.put, List.setIfInBounds_toArray, List.set_cons_zero, List.set_cons_succ]
                refine wpAnyH_take (i := 7) (oi := { dst := some 119, op := Op.move (Operand.tmp 1), type := 3, pos := "law.go:100", after := #[{ on := 3, ground := Ground.guard }], guard := some (3, true) }) (v := undef) rfl (by kernel_rfl) (by kernel_rfl) (by kernel_rfl) (fun _ _ _ h => h) (Or.inr ⟨by rfl, rfl⟩) (by assumption) ?_
                simp only [Act.put, List.setIfInBounds_toArray, List.set_cons_zero, List.set_cons_succ]
                refine wpAnyH_take (i := 8) (oi := { dst := some 120, op := Op.move (Operand.tmp 0), type := 26, pos := "law.go:100", after := #[{ on := 3, ground := Ground.guard }], guard := some (3, true) }) (v := undef) rfl (by kernel_rfl) (by kernel_rfl) (by kernel_rfl) (fun _ _ _ h => h) (Or.inr ⟨by rfl, rfl⟩) (by assumption) ?_
                simp only [Act.put, List.setIfInBounds_toArray, List.set_cons_zero, List.set_cons_succ]
                refine wpAnyH_take (i := 9) (oi := { dst := some 121, op := Op.move (Operand.tmp 1), type := 3, pos := "law.go:100", after := #[{ on := 3, ground := Ground.guard }], guard := some (3, true) }) (v := undef) rfl (by kernel_rfl) (by kernel_rfl) (by kernel_rfl) (fun _ _ _ h => h) (Or.inr ⟨by rfl, rfl⟩) (by assumption) ?_
                simp only [Act.put, List.setIfInBounds_toArray, List.set_cons_zero, List.set_cons_succ]
                refine wpAnyH_take (i := 10) (oi := { dst := some 122, op := Op.indexAddr 26 (Operand.tmp 120) (Operand.tmp 121), type := 0, pos := "law.go:100", after := #[{ on := 8, ground := Ground.data }, { on := 9, ground := Ground.data }, { on := 3, ground := Ground.guard }], guard := some (3, true) }) (v := undef) rfl (by kernel_rfl) (by kernel_rfl) (by kernel_rfl) (fun _ _ _ h => h) (Or.inr ⟨by rfl, rfl⟩) (by assumption) ?_
                simp only [Act.put, List.setIfInBounds_toArray, List.set_cons_zero, List.set_cons_succ]
                refine wpAnyH_take (i := 11) (oi := { dst := some 123, op := Op.load 9 (Operand.tmp 122), type := 9, pos := "law.go:100", after := #[{ on := 10, ground := Ground.data }, { on := 3, ground := Ground.guard }], guard := some (3, true) }) (v := undef) rfl (by kernel_rfl) (by kernel_rfl) (by kernel_rfl) (fun _ _ _ h => h) (Or.inr ⟨by rfl, rfl⟩) (by assumption) ?_
                simp only [Act.put, List.setIfInBounds_toArray, List.set_cons_zero, List.set_cons_succ]
                refine wpAnyH_take (i := 12) (oi := { dst := some 124, op := Op.move (Operand.tmp 10), type := 26, pos := "law.go:100", after := #[{ on := 3, ground := Ground.guard }], guard := some (3, true) }) (v := undef) rfl (by kernel_rfl) (by kernel_rfl) (by kernel_rfl) (fun _ _ _ h => h) (Or.inr ⟨by rfl, rfl⟩) (by assumption) ?_
                simp only [Act.put, List.setIfInBounds_toArray, List.set_cons_zero, List.set_cons_succ]
                refine wpAnyH_take (i := 13) (oi := { dst := some 125, op := Op.slice 26 (Operand.tmp 124) (some (Operand.const (Value.int IntKind.i64 1))) none none, type := 26, pos := "law.go:100", after := #[{ on := 12, ground := Ground.data }, { on := 3, ground := Ground.guard }], guard := some (3, true) }) (v := undef) rfl (by kernel_rfl) (by kernel_rfl) (by kernel_rfl) (fun _ _ _ h => h) (Or.inr ⟨by rfl, rfl⟩) (by assumption) ?_
                simp only [Act.put, List.setIfInBounds_toArray, List.set_cons_zero, List.set_cons_succ]
                refine wpAnyH_take (i := 14) (oi := { dst := some 126, op := Op.call { callee := Callee.value (Operand.func 24), args := #[Operand.tmp 116, Operand.tmp 118, Operand.tmp 119, Operand.tmp 123, Operand.tmp 125], argTypes := #[9, 3, 3, 9, 26] }, type := 4, pos := "law.go:100", after := #[{ on := 4, ground := Ground.data }, { on := 6, ground := Ground.data }, { on := 7, ground := Ground.data }, { on := 11, ground := Ground.data }, { on := 13, ground := Ground.data }, { on := 3, ground := Ground.chain }, { on := 3, ground := Ground.guard }], guard := some (3, true) }) (v := undef) rfl (by kernel_rfl) (by kernel_rfl) (by kernel_rfl) (fun _ _ _ h => h) (Or.inr ⟨by rfl, rfl⟩) (by assumption) ?_
                simp only [Act.put, List.setIfInBounds_toArray, List.set_cons_zero, List.set_cons_succ]
                refine wpAnyH_take (i := 15) (oi := { dst := some 127, op := Op.pick (Operand.tmp 115) (Operand.tmp 126) (Operand.const (Value.bool false)), type := 4, pos := "law.go:100", after := #[{ on := 3, ground := Ground.data }, { on := 14, ground := Ground.data }], guard := none }) (v := ?vcs1_15) rfl (by kernel_rfl) (by kernel_rfl) (by kernel_rfl) (fun _ _ _ h => h) (Or.inl ⟨by rfl, ?ycs1_15⟩) (by assumption) ?tcs1_15
                case ycs1_15 => (intro w hSw; try dsimp only at hSw); go_simp; try with_reducible rfl
                simp only [Act.put, List.setIfInBounds_toArray, List.set_cons_zero, List.set_cons_succ]
                refine wpAnyH_take (i := 16) (oi := { dst := some 14, op := Op.assign (Operand.tmp 127), type := 4, pos := "law.go:100", after := #[{ on := 15, ground := Ground.data }, { on := 14, ground := Ground.chain }, { on := 0, ground := Ground.phase }, { on := 1, ground := Ground.phase }, { on := 2, ground := Ground.phase }, { on := 3, ground := Ground.phase }, { on := 4, ground := Ground.phase }, { on := 5, ground := Ground.phase }, { on := 6, ground := Ground.phase }, { on := 7, ground := Ground.phase }, { on := 8, ground := Ground.phase }, { on := 9, ground := Ground.phase }, { on := 10, ground := Ground.phase }, { on := 11, ground := Ground.phase }, { on := 12, ground := Ground.phase }, { on := 13, ground := Ground.phase }, { on := 14, ground := Ground.phase }, { on := 15, ground := Ground.phase }], guard := none }) (v := ?vcs1_16) rfl (by kernel_rfl) (by kernel_rfl) (by kernel_rfl) (fun _ _ _ h => h) (Or.inl ⟨by rfl, ?ycs1_16⟩) (by assumption) ?tcs1_16
                case ycs1_16 => (intro w hSw; try dsimp only at hSw); go_simp; try with_reducible rfl
                simp only [Act.put, List.setIfInBounds_toArray, List.set_cons_zero, List.set_cons_succ]
                refine wpAnyH_done (by kernel_rfl) ?_ _
                go_wp2_with fail
                go_ret
                exact ⟨rfl, below_step H5.out.1.2.2 hbd⟩
            refine AllReadyH.cons (o := { dst := some 109, op := Op.buildSlice 26 1 #[(0, Operand.tmp 108)], type := 26, pos := "law.go:99", after := #[{ on := 11, ground := Ground.data }], guard := none }) rfl (fun K hK => ?_) AllReadyH.nil
            go_simp
            have hb1 : Below V5.heap.size V5 (U1.alloc (.cells #[.string r2] 9)) := hb.alloc hb.size _
            have hl1 := OneCell.new U1 r2
            have ho1 := ho.alloc (.cells #[.string r2] 9)
            have hne : (Value.slice (some ⟨U0.heap.size, 0, none⟩) 0 0).ownBlock ≠ some U1.heap.size := fun e => Nat.lt_irrefl _ (ho.lt _ e).2
            clear ho
            refine hK.out _ _ (HCZ5.out _ hb1) (fun hHeld' => ?_)
            clear hK K hHeld
            have hHeld := hHeld'; clear hHeld'
            obtain ⟨U2, hU⟩ : ∃ X, X = U1.alloc (.cells #[.string r2] 9) := ⟨_, rfl⟩
            rw [← hU] at hb1 hl1 ho1 hHeld ⊢
            clear hU
            clear hb
            have hb := hb1; have hl := hl1; clear hb1 hl1
            have ho := ho1; clear ho1
            try simp only [Act.put, List.setIfInBounds_toArray, List.set_cons_zero, List.set_cons_succ]
            refine wpAnyH_ready (rs := [10]) (by kernel_rfl) (by simp) ?_
            refine AllReadyH.cons (o := { dst := some 107, op := Op.call { callee := Callee.builtin Go.Builtin.append, args := #[Operand.tmp 105, Operand.tmp 106], argTypes := #[26, 26] }, type := 26, pos := "law.go:99", after := #[{ on := 8, ground := Ground.data }, { on := 9, ground := Ground.data }], guard := none }) rfl (fun K hK => ?_) AllReadyH.nil
            rw [if_pos (show Region.wanted _ _ = true from rfl)]
            refine wp_append_own _ (.tmp 105) (.tmp 106) 26 rfl V5.heap.size 9 i0 (.string ⟨#[]⟩) 1 16 Tryd.underlying26 hi0 hz0 hz1 hz2 rfl (by decide) _ _ _ rfl ho ad X.length c5 (strV X) rfl (by simp [strV]) (hA5.below hb).news (strV_one X) (by unfold maxLen; have := HX1.out; omega) (by have := HX1.out; omega) hb.size ?_
            intro v1 U3 ho1 hg _
            have hb1 : Below V5.heap.size V5 U3 := hb.grown hg hb.size (fun k e => (ho.lt k e).1)
            rw [Nat.zero_add, List.nil_append] at ho1
            have hl1 := hl.grown hg hne; clear hl hne
            refine hK.out _ _ (HCZ5.out _ hb1) (fun hHeld' => ?_)
            clear hK K hHeld
            have hHeld := hHeld'; clear hHeld'
            clear hb ho hg
            have hb := hb1; have ho := ho1; clear hb1 ho1
            have hl := hl1; clear hl1
            try simp only [Act.put, List.setIfInBounds_toArray, List.set_cons_zero, List.set_cons_succ]
            refine wpAnyH_ready (rs := [13]) (by kernel_rfl) (by simp) ?_
            refine AllReadyH.cons (o := { dst := some 110, op := Op.call { callee := Callee.builtin Go.Builtin.append, args := #[Operand.tmp 107, Operand.tmp 109], argTypes := #[26, 26] }, type := 26, pos := "law.go:99", after := #[{ on := 10, ground := Ground.data }, { on := 12, ground := Ground.data }, { on := 10, ground := Ground.chain }], guard := none }) rfl (fun K hK => ?_) AllReadyH.nil
            rw [if_pos (show Region.wanted _ _ = true from rfl)]
            refine wp_append_own _ (.tmp 107) (.tmp 109) 26 rfl V5.heap.size 9 i0 (.string ⟨#[]⟩) 1 16 Tryd.underlying26 hi0 hz0 hz1 hz2 rfl (by decide) _ _ _ rfl ho ⟨U1.heap.size, 0, none⟩ 1 1 [.string r2] rfl rfl hl.2 (by simp [Value.oneCell']) (by unfold maxLen; have := HX1.out; omega) (by have := HX1.out; omega) hb.size ?_
            intro v9 U4 ho9 hg _
            have hb1 : Below V5.heap.size V5 U4 := hb.grown hg hb.size (fun k e => (ho.lt k e).1)
            obtain ⟨a9, c9, rfl, hA9⟩ := (show StrOwn U4 V5.heap.size v9 (X ++ [r2]) from by unfold StrOwn strV; rw [List.length_append, List.map_append]; first | exact ho9 | (rw [Nat.zero_add] at ho9; exact ho9)).arg
            rw [List.length_append, List.length_singleton]
            refine hK.out _ _ (HCZ5.out _ hb1) (fun hHeld' => ?_)
            clear hK K hHeld
            have hHeld := hHeld'; clear hHeld'
            clear hb ho hg hl ho9
            have hb := hb1; clear hb1
            try simp only [Act.put, List.setIfInBounds_toArray, List.set_cons_zero, List.set_cons_succ]
            refine wpAnyH_ready (rs := [14]) (by kernel_rfl) (by simp) ?_
            refine AllReadyH.cons (o := { dst := some 111, op := Op.call { callee := Callee.value (Operand.func 24), args := #[Operand.tmp 97, Operand.tmp 99, Operand.tmp 100, Operand.tmp 104, Operand.tmp 110], argTypes := #[9, 3, 3, 9, 26] }, type := 4, pos := "law.go:99", after := #[{ on := 0, ground := Ground.data }, { on := 2, ground := Ground.data }, { on := 3, ground := Ground.data }, { on := 7, ground := Ground.data }, { on := 13, ground := Ground.data }, { on := 13, ground := Ground.chain }], guard := none }) rfl (fun K hK => ?_) AllReadyH.nil
            go_simp
            (with_reducible refine (HVL.out _ _ _ (HT5.out.below hb) hA9).mono ?_)
            rintro e U9 ⟨rfl, hb9⟩
            try go_wp2_with fail
            have hb1 := below_step hb hb9
            refine hK.out _ _ (HCZ5.out _ hb1) (fun hHeld' => ?_)
            clear hK K hHeld
            have hHeld := hHeld'; clear hHeld'
            clear hb hb9 hA9
            have hb := hb1; clear hb1
            try simp only [Act.put, List.setIfInBounds_toArray, List.set_cons_zero, List.set_cons_succ]
            refine wpAnyH_take (i := 15) (oi := { dst := some 13, op := Op.assign (Operand.tmp 111), type := 4, pos := "law.go:99", after := #[{ on := 14, ground := Ground.data }, { on := 14, ground := Ground.chain }, { on := 0, ground := Ground.phase }, { on := 1, ground := Ground.phase }, { on := 2, ground := Ground.phase }, { on := 3, ground := Ground.phase }, { on := 4, ground := Ground.phase }, { on := 5, ground := Ground.phase }, { on := 6, ground := Ground.phase }, { on := 7, ground := Ground.phase }, { on := 8, ground := Ground.phase }, { on := 9, ground := Ground.phase }, { on := 10, ground := Ground.phase }, { on := 11, ground := Ground.phase }, { on := 12, ground := Ground.phase }, { on := 13, ground := Ground.phase }, { on := 14, ground := Ground.phase }], guard := none }) (v := ?vxs12_15) rfl (by kernel_rfl) (by kernel_rfl) (by kernel_rfl) (fun _ _ _ h => h) (Or.inl ⟨by rfl, ?yxs12_15⟩) hHeld ?txs12_15
            case yxs12_15 => (intro w hSw; try dsimp only at hSw); go_simp; try with_reducible rfl
            simp only [Act.put, List.setIfInBounds_toArray, List.set_cons_zero, List.set_cons_succ]
            refine wpAnyH_done (by kernel_rfl) ?_ _
            go_wp2_with fail
            by_cases h0 : 0 < X.length
            · obtain ⟨b5, o5, he5, _⟩ := hA5.place h0
              cases he5
              have hd1 : decide ((0 : Int) < (X.length : Int)) = true := decide_eq_true (by omega)
              have hd2 : (0 : Int) < (X.length : Int) := by omega
              have hk1 : (1 : Int) ≤ (X.length : Int) := by omega
              have hk2 : (X.length : Int) ≤ (c5 : Int) := by have := hA5.1; omega
              have hk3 : (1 : Int) ≤ (c5 : Int) := by omega
              have hk4 := hA5.2.1
              unfold maxLen at hk4
              by_cases hc1 : c5 = 1
              · have hx1 : X.length = 1 := by omega
                subst hc1
                have hD : ∀ V, StrA V (some ⟨b5, o5, none⟩) 0 (X.drop 1) := fun V => ⟨by rw [List.length_drop]; omega, by decide, fun j hj => absurd hj (by rw [List.length_drop]; omega)⟩
                have HVS1 := Lib.hid (show ∀ V a' c', Tab V → StrA V a' c' (X.drop 1) → Calls Tryd.prog 24 #[.string r2, .int .i64 L.length, .int .i64 i, .string z, .slice a' 0 c'] V (BoolEnd false V) from fun V a' c' h hS => by have := HVS.out V a' c' h0 h hS; simpa only [hx1, Nat.sub_self] using this)
                have hbd := hb.drew; clear hb
                refine wp_region_held_drew (S := (fun v => v.cell? ⟨b, off + i, none⟩ = some (.string z))) (by kernel_rfl) (HCZ5.out _ hbd) (fun hHeld => ?_)
                refine wpAnyH_take (i := 0) (oi := { dst := some 112, op := Op.move (Operand.tmp 10), type := 26, pos := "law.go:100", after := #[], guard := none }) (v := ?vqs2_0) rfl (by kernel_rfl) (by kernel_rfl) (by kernel_rfl) (fun _ _ _ h => h) (Or.inl ⟨by rfl, ?yqs2_0⟩) (by assumption) ?tqs2_0
                case yqs2_0 => (intro w hSw; try dsimp only at hSw); go_simp; try with_reducible rfl
                simp only [Act.put, List.setIfInBounds_toArray, List.set_cons_zero, List.set_cons_succ]
                refine wpAnyH_take (i := 1) (oi := { dst := some 113, op := Op.call { callee := Callee.builtin Go.Builtin.len, args := #[Operand.tmp 112], argTypes := #[26] }, type := 3, pos := "law.go:100", after := #[{ on := 0, ground := Ground.data }], guard := none }) (v := ?vqs2_1) rfl (by kernel_rfl) (by kernel_rfl) (by kernel_rfl) (fun _ _ _ h => h) (Or.inl ⟨by rfl, ?yqs2_1⟩) (by assumption) ?tqs2_1
                case yqs2_1 => (intro w hSw; try dsimp only at hSw); go_simp; try with_reducible rfl
                simp only [Act.put, List.setIfInBounds_toArray, List.set_cons_zero, List.set_cons_succ]
                refine wpAnyH_take (i := 2) (oi := { dst := some 114, op := Op.binOp BinOp.gtr 3 (Operand.tmp 113) (Operand.const (Value.int IntKind.i64 0)) 3, type := 4, pos := "law.go:100", after := #[{ on := 1, ground := Ground.data }], guard := none }) (v := ?vqs2_2) rfl (by kernel_rfl) (by kernel_rfl) (by kernel_rfl) (fun _ _ _ h => h) (Or.inl ⟨by rfl, ?yqs2_2⟩) (by assumption) ?tqs2_2
                case yqs2_2 => (intro w hSw; try dsimp only at hSw); go_simp; try with_reducible rfl
                simp only [Act.put, List.setIfInBounds_toArray, List.set_cons_zero, List.set_cons_succ]
                refine wpAnyH_take (i := 3) (oi := { dst := some 115, op := Op.move (Operand.tmp 114), type := 4, pos := "law.go:100", after := #[{ on := 2, ground := Ground.data }], guard := none }) (v := ?vqs2_3) rfl (by kernel_rfl) (by kernel_rfl) (by kernel_rfl) (fun _ _ _ h => h) (Or.inl ⟨by rfl, ?yqs2_3⟩) (by assumption) ?tqs2_3
                case yqs2_3 => (intro w hSw; try dsimp only at hSw); go_simp; try with_reducible rfl
                simp only [Act.put, List.setIfInBounds_toArray, List.set_cons_zero, List.set_cons_succ]
                refine wpAnyH_take (i := 4) (oi := { dst := some 116, op := Op.move (Operand.tmp 6), type := 9, pos := "law.go:100", after := #[{ on := 3, ground := Ground.guard }], guard := some (3, true) }) (v := ?vqs2_4) rfl (by kernel_rfl) (by kernel_rfl) (by kernel_rfl) (fun _ _ _ h => h) (Or.inl ⟨by rfl, ?yqs2_4⟩) (by assumption) ?tqs2_4
                case yqs2_4 => (intro w hSw; try dsimp only at hSw); go_simp; try with_reducible rfl
                simp only [Act.put, List.setIfInBounds_toArray, List.set_cons_zero, List.set_cons_succ]
                refine wpAnyH_take (i := 5) (oi := { dst := some 117, op := Op.move (Operand.tmp 0), type := 26, pos := "law.go:100", after := #[{ on := 3, ground := Ground.guard }], guard := some (3, true) }) (v := ?vqs2_5) rfl (by kernel_rfl) (by kernel_rfl) (by kernel_rfl) (fun _ _ _ h => h) (Or.inl ⟨by rfl, ?yqs2_5⟩) (by assumption) ?tqs2_5
                case yqs2_5 => (intro w hSw; try dsimp only at hSw); go_simp; try with_reducible rfl
                simp only [Act.put, List.setIfInBounds_toArray, List.set_cons_zero, List.set_cons_succ]
                refine wpAnyH_take (i := 6) (oi := { dst := some 118, op := Op.call { callee := Callee.builtin Go.Builtin.len, args := #[Operand.tmp 117], argTypes := #[26] }, type := 3, pos := "law.go:100", after := #[{ on := 5, ground := Ground.data }, { on := 3, ground := Ground.guard }], guard := some (3, true) }) (v := ?vqs2_6) rfl (by kernel_rfl) (by kernel_rfl) (by kernel_rfl) (fun _ _ _ h => h) (Or.inl ⟨by rfl, ?yqs2_6⟩) (by assumption) ?tqs2_6
                case yqs2_6 => (intro w hSw; try dsimp only at hSw); go_simp; try with_reducible rfl
                simp only [Act.put, List.setIfInBounds_toArray, List.set_cons_zero, List.set_cons_succ]
                refine wpAnyH_take (i := 7) (oi := { dst := some 119, op := Op.move (Operand.tmp 1), type := 3, pos := "law.go:100", after := #[{ on := 3, ground := Ground.guard }], guard := some (3, true) }) (v := ?vqs2_7) rfl (by kernel_rfl) (by kernel_rfl) (by kernel_rfl) (fun _ _ _ h => h) (Or.inl ⟨by rfl, ?yqs2_7⟩) (by assumption) ?tqs2_7
                case yqs2_7 => (intro w hSw; try dsimp only at hSw); go_simp; try with_reducible rfl
                simp only [Act.put, List.setIfInBounds_toArray, List.set_cons_zero, List.set_cons_succ]
                refine wpAnyH_take (i := 8) (oi := { dst := some 120, op := Op.move (Operand.tmp 0), type := 26, pos := "law.go:100", after := #[{ on := 3, ground := Ground.guard }], guard := some (3, true) }) (v := ?vqs2_8) rfl (by kernel_rfl) (by kernel_rfl) (by kernel_rfl) (fun _ _ _ h => h) (Or.inl ⟨by rfl, ?yqs2_8⟩) (by assumption) ?tqs2_8
                case yqs2_8 => (intro w hSw; try dsimp only at hSw); go_simp; try with_reducible rfl
                simp only [Act.put, List.setIfInBounds_toArray, List.set_cons_zero, List.set_cons_succ]
                refine wpAnyH_take (i := 9) (oi := { dst := some 121, op := Op.move (Operand.tmp 1), type := 3, pos := "law.go:100", after := #[{ on := 3, ground := Ground.guard }], guard := some (3, true) }) (v := ?vqs2_9) rfl (by kernel_rfl) (by kernel_rfl) (by kernel_rfl) (fun _ _ _ h => h) (Or.inl ⟨by rfl, ?yqs2_9⟩) (by assumption) ?tqs2_9
                case yqs2_9 => (intro w hSw; try dsimp only at hSw); go_simp; try with_reducible rfl
                simp only [Act.put, List.setIfInBounds_toArray, List.set_cons_zero, List.set_cons_succ]
                refine wpAnyH_take (i := 10) (oi := { dst := some 122, op := Op.indexAddr 26 (Operand.tmp 120) (Operand.tmp 121), type := 0, pos := "law.go:100", after := #[{ on := 8, ground := Ground.data }, { on := 9, ground := Ground.data }, { on := 3, ground := Ground.guard }], guard := some (3, true) }) (v := ?vqs2_10) rfl (by kernel_rfl) (by kernel_rfl) (by kernel_rfl) (fun _ _ _ h => h) (Or.inl ⟨by rfl, ?yqs2_10⟩) (by assumption) ?tqs2_10
                case yqs2_10 => (intro w hSw; try dsimp only at hSw); go_simp; try with_reducible rfl
                simp only [Act.put, List.setIfInBounds_toArray, List.set_cons_zero, List.set_cons_succ]
                refine wpAnyH_take (i := 11) (oi := { dst := some 123, op := Op.load 9 (Operand.tmp 122), type := 9, pos := "law.go:100", after := #[{ on := 10, ground := Ground.data }, { on := 3, ground := Ground.guard }], guard := some (3, true) }) (v := ?vqs2_11) rfl (by kernel_rfl) (by kernel_rfl) (by kernel_rfl) (fun _ _ _ h => h) (Or.inl ⟨by rfl, ?yqs2_11⟩) (by assumption) ?tqs2_11
                case yqs2_11 => (intro w hSw; try dsimp only at hSw); go_simp; try with_reducible rfl
                simp only [Act.put, List.setIfInBounds_toArray, List.set_cons_zero, List.set_cons_succ]
                refine wpAnyH_take (i := 12) (oi := { dst := some 124, op := Op.move (Operand.tmp 10), type := 26, pos := "law.go:100", after := #[{ on := 3, ground := Ground.guard }], guard := some (3, true) }) (v := ?vqs2_12) rfl (by kernel_rfl) (by kernel_rfl) (by kernel_rfl) (fun _ _ _ h => h) (Or.inl ⟨by rfl, ?yqs2_12⟩) (by assumption) ?tqs2_12
                case yqs2_12 => (intro w hSw; try dsimp only at hSw); go_simp; try with_reducible rfl
                simp only [Act.put, List.setIfInBounds_toArray, List.set_cons_zero, List.set_cons_succ]
                refine wpAnyH_take (i := 13) (oi := { dst := some 125, op := Op.slice 26 (Operand.tmp 124) (some (Operand.const (Value.int IntKind.i64 1))) none none, type := 26, pos := "law.go:100", after := #[{ on := 12, ground := Ground.data }, { on := 3, ground := Ground.guard }], guard := some (3, true) }) (v := ?vqs2_13) rfl (by kernel_rfl) (by kernel_rfl) (by kernel_rfl) (fun _ _ _ h => h) (Or.inl ⟨by rfl, ?yqs2_13⟩) (by assumption) ?tqs2_13
                case yqs2_13 => (intro w hSw; try dsimp only at hSw); go_simp; try with_reducible rfl
                simp only [Act.put, List.setIfInBounds_toArray, List.set_cons_zero, List.set_cons_succ]
                refine wpAnyH_ready (rs := [14]) (by kernel_rfl) (by simp) ?_
                refine AllReadyH.cons (o := { dst := some 126, op := Op.call { callee := Callee.value (Operand.func 24), args := #[Operand.tmp 116, Operand.tmp 118, Operand.tmp 119, Operand.tmp 123, Operand.tmp 125], argTypes := #[9, 3, 3, 9, 26] }, type := 4, pos := "law.go:100", after := #[{ on := 4, ground := Ground.data }, { on := 6, ground := Ground.data }, { on := 7, ground := Ground.data }, { on := 11, ground := Ground.data }, { on := 13, ground := Ground.data }, { on := 3, ground := Ground.chain }, { on := 3, ground := Ground.guard }], guard := some (3, true) }) rfl (fun K hK => ?_) AllReadyH.nil
                go_simp
                (with_reducible refine (HVS1.out _ _ _ (HT5.out.below hbd) ((fun V (_ : Below V5.heap.size V5 V) => hD V) _ hbd)).mono ?_)
                rintro e U10 ⟨rfl, hb10⟩
                try go_wp2_with fail
                have hb1 := below_step hbd hb10
                refine hK.out _ _ (HCZ5.out _ hb1) (fun hHeld' => ?_)
                clear hK K hHeld
                have hHeld := hHeld'; clear hHeld'
                try simp only [Act.put, List.setIfInBounds_toArray, List.set_cons_zero, List.set_cons_succ]
                refine wpAnyH_take (i := 15) (oi := { dst := some 127, op := Op.pick (Operand.tmp 115) (Operand.tmp 126) (Operand.const (Value.bool false)), type := 4, pos := "law.go:100", after := #[{ on := 3, ground := Ground.data }, { on := 14, ground := Ground.data }], guard := none }) (v := ?vqs2_15) rfl (by kernel_rfl) (by kernel_rfl) (by kernel_rfl) (fun _ _ _ h => h) (Or.inl ⟨by rfl, ?yqs2_15⟩) (by assumption) ?tqs2_15
                case yqs2_15 => (intro w hSw; try dsimp only at hSw); go_simp; try with_reducible rfl
                simp only [Act.put, List.setIfInBounds_toArray, List.set_cons_zero, List.set_cons_succ]
                refine wpAnyH_take (i := 16) (oi := { dst := some 14, op := Op.assign (Operand.tmp 127), type := 4, pos := "law.go:100", after := #[{ on := 15, ground := Ground.data }, { on := 14, ground := Ground.chain }, { on := 0, ground := Ground.phase }, { on := 1, ground := Ground.phase }, { on := 2, ground := Ground.phase }, { on := 3, ground := Ground.phase }, { on := 4, ground := Ground.phase }, { on := 5, ground := Ground.phase }, { on := 6, ground := Ground.phase }, { on := 7, ground := Ground.phase }, { on := 8, ground := Ground.phase }, { on := 9, ground := Ground.phase }, { on := 10, ground := Ground.phase }, { on := 11, ground := Ground.phase }, { on := 12, ground := Ground.phase }, { on := 13, ground := Ground.phase }, { on := 14, ground := Ground.phase }, { on := 15, ground := Ground.phase }], guard := none }) (v := ?vqs2_16) rfl (by kernel_rfl) (by kernel_rfl) (by kernel_rfl) (fun _ _ _ h => h) (Or.inl ⟨by rfl, ?yqs2_16⟩) (by assumption) ?tqs2_16
                case yqs2_16 => (intro w hSw; try dsimp only at hSw); go_simp; try with_reducible rfl
                simp only [Act.put, List.setIfInBounds_toArray, List.set_cons_zero, List.set_cons_succ]
                refine wpAnyH_done (by kernel_rfl) ?_ _
                go_wp2_with fail
                go_ret
                exact ⟨rfl, below_step H5.out.1.2.2 hb1⟩
              · have hc2 : (c5 == 1) = false := by simp; omega
                have hD : ∀ V, Below V5.heap.size V5 V → StrA V (some ⟨b5, o5 + 1, none⟩) (c5 - 1) (X.drop 1) := fun V hb => (hA5.below hb).drop 1
                have hbd := hb.drew; clear hb
                refine wp_region_held_drew (S := (fun v => v.cell? ⟨b, off + i, none⟩ = some (.string z))) (by kernel_rfl) (HCZ5.out _ hbd) (fun hHeld => ?_)
                refine wpAnyH_take (i := 0) (oi := { dst := some 112, op := Op.move (Operand.tmp 10), type := 26, pos := "law.go:100", after := #[], guard := none }) (v := ?vps2_0) rfl (by kernel_rfl) (by kernel_rfl) (by kernel_rfl) (fun _ _ _ h => h) (Or.inl ⟨by rfl, ?yps2_0⟩) (by assumption) ?tps2_0
                case yps2_0 => (intro w hSw; try dsimp only at hSw); go_simp; try with_reducible rfl
                simp only [Act.put, List.setIfInBounds_toArray, List.set_cons_zero, List.set_cons_succ]
                refine wpAnyH_take (i := 1) (oi := { dst := some 113, op := Op.call { callee := Callee.builtin Go.Builtin.len, args := #[Operand.tmp 112], argTypes := #[26] }, type := 3, pos := "law.go:100", after := #[{ on := 0, ground := Ground.data }], guard := none }) (v := ?vps2_1) rfl (by kernel_rfl) (by kernel_rfl) (by kernel_rfl) (fun _ _ _ h => h) (Or.inl ⟨by rfl, ?yps2_1⟩) (by assumption) ?tps2_1
                case yps2_1 => (intro w hSw; try dsimp only at hSw); go_simp; try with_reducible rfl
                simp only [Act.put, List.setIfInBounds_toArray, List.set_cons_zero, List.set_cons_succ]
                refine wpAnyH_take (i := 2) (oi := { dst := some 114, op := Op.binOp BinOp.gtr 3 (Operand.tmp 113) (Operand.const (Value.int IntKind.i64 0)) 3, type := 4, pos := "law.go:100", after := #[{ on := 1, ground := Ground.data }], guard := none }) (v := ?vps2_2) rfl (by kernel_rfl) (by kernel_rfl) (by kernel_rfl) (fun _ _ _ h => h) (Or.inl ⟨by rfl, ?yps2_2⟩) (by assumption) ?tps2_2
                case yps2_2 => (intro w hSw; try dsimp only at hSw); go_simp; try with_reducible rfl
                simp only [Act.put, List.setIfInBounds_toArray, List.set_cons_zero, List.set_cons_succ]
                refine wpAnyH_take (i := 3) (oi := { dst := some 115, op := Op.move (Operand.tmp 114), type := 4, pos := "law.go:100", after := #[{ on := 2, ground := Ground.data }], guard := none }) (v := ?vps2_3) rfl (by kernel_rfl) (by kernel_rfl) (by kernel_rfl) (fun _ _ _ h => h) (Or.inl ⟨by rfl, ?yps2_3⟩) (by assumption) ?tps2_3
                case yps2_3 => (intro w hSw; try dsimp only at hSw); go_simp; try with_reducible rfl
                simp only [Act.put, List.setIfInBounds_toArray, List.set_cons_zero, List.set_cons_succ]
                refine wpAnyH_take (i := 4) (oi := { dst := some 116, op := Op.move (Operand.tmp 6), type := 9, pos := "law.go:100", after := #[{ on := 3, ground := Ground.guard }], guard := some (3, true) }) (v := ?vps2_4) rfl (by kernel_rfl) (by kernel_rfl) (by kernel_rfl) (fun _ _ _ h => h) (Or.inl ⟨by rfl, ?yps2_4⟩) (by assumption) ?tps2_4
                case yps2_4 => (intro w hSw; try dsimp only at hSw); go_simp; try with_reducible rfl
                simp only [Act.put, List.setIfInBounds_toArray, List.set_cons_zero, List.set_cons_succ]
                refine wpAnyH_take (i := 5) (oi := { dst := some 117, op := Op.move (Operand.tmp 0), type := 26, pos := "law.go:100", after := #[{ on := 3, ground := Ground.guard }], guard := some (3, true) }) (v := ?vps2_5) rfl (by kernel_rfl) (by kernel_rfl) (by kernel_rfl) (fun _ _ _ h => h) (Or.inl ⟨by rfl, ?yps2_5⟩) (by assumption) ?tps2_5
                case yps2_5 => (intro w hSw; try dsimp only at hSw); go_simp; try with_reducible rfl
                simp only [Act.put, List.setIfInBounds_toArray, List.set_cons_zero, List.set_cons_succ]
                refine wpAnyH_take (i := 6) (oi := { dst := some 118, op := Op.call { callee := Callee.builtin Go.Builtin.len, args := #[Operand.tmp 117], argTypes := #[26] }, type := 3, pos := "law.go:100", after := #[{ on := 5, ground := Ground.data }, { on := 3, ground := Ground.guard }], guard := some (3, true) }) (v := ?vps2_6) rfl (by kernel_rfl) (by kernel_rfl) (by kernel_rfl) (fun _ _ _ h => h) (Or.inl ⟨by rfl, ?yps2_6⟩) (by assumption) ?tps2_6
                case yps2_6 => (intro w hSw; try dsimp only at hSw); go_simp; try with_reducible rfl
                simp only [Act.put, List.setIfInBounds_toArray, List.set_cons_zero, List.set_cons_succ]
                refine wpAnyH_take (i := 7) (oi := { dst := some 119, op := Op.move (Operand.tmp 1), type := 3, pos := "law.go:100", after := #[{ on := 3, ground := Ground.guard }], guard := some (3, true) }) (v := ?vps2_7) rfl (by kernel_rfl) (by kernel_rfl) (by kernel_rfl) (fun _ _ _ h => h) (Or.inl ⟨by rfl, ?yps2_7⟩) (by assumption) ?tps2_7
                case yps2_7 => (intro w hSw; try dsimp only at hSw); go_simp; try with_reducible rfl
                simp only [Act.put, List.setIfInBounds_toArray, List.set_cons_zero, List.set_cons_succ]
                refine wpAnyH_take (i := 8) (oi := { dst := some 120, op := Op.move (Operand.tmp 0), type := 26, pos := "law.go:100", after := #[{ on := 3, ground := Ground.guard }], guard := some (3, true) }) (v := ?vps2_8) rfl (by kernel_rfl) (by kernel_rfl) (by kernel_rfl) (fun _ _ _ h => h) (Or.inl ⟨by rfl, ?yps2_8⟩) (by assumption) ?tps2_8
                case yps2_8 => (intro w hSw; try dsimp only at hSw); go_simp; try with_reducible rfl
                simp only [Act.put, List.setIfInBounds_toArray, List.set_cons_zero, List.set_cons_succ]
                refine wpAnyH_take (i := 9) (oi := { dst := some 121, op := Op.move (Operand.tmp 1), type := 3, pos := "law.go:100", after := #[{ on := 3, ground := Ground.guard }], guard := some (3, true) }) (v := ?vps2_9) rfl (by kernel_rfl) (by kernel_rfl) (by kernel_rfl) (fun _ _ _ h => h) (Or.inl ⟨by rfl, ?yps2_9⟩) (by assumption) ?tps2_9
                case yps2_9 => (intro w hSw; try dsimp only at hSw); go_simp; try with_reducible rfl
                simp only [Act.put, List.setIfInBounds_toArray, List.set_cons_zero, List.set_cons_succ]
                refine wpAnyH_take (i := 10) (oi := { dst := some 122, op := Op.indexAddr 26 (Operand.tmp 120) (Operand.tmp 121), type := 0, pos := "law.go:100", after := #[{ on := 8, ground := Ground.data }, { on := 9, ground := Ground.data }, { on := 3, ground := Ground.guard }], guard := some (3, true) }) (v := ?vps2_10) rfl (by kernel_rfl) (by kernel_rfl) (by kernel_rfl) (fun _ _ _ h => h) (Or.inl ⟨by rfl, ?yps2_10⟩) (by assumption) ?tps2_10
                case yps2_10 => (intro w hSw; try dsimp only at hSw); go_simp; try with_reducible rfl
                simp only [Act.put, List.setIfInBounds_toArray, List.set_cons_zero, List.set_cons_succ]
                refine wpAnyH_take (i := 11) (oi := { dst := some 123, op := Op.load 9 (Operand.tmp 122), type := 9, pos := "law.go:100", after := #[{ on := 10, ground := Ground.data }, { on := 3, ground := Ground.guard }], guard := some (3, true) }) (v := ?vps2_11) rfl (by kernel_rfl) (by kernel_rfl) (by kernel_rfl) (fun _ _ _ h => h) (Or.inl ⟨by rfl, ?yps2_11⟩) (by assumption) ?tps2_11
                case yps2_11 => (intro w hSw; try dsimp only at hSw); go_simp; try with_reducible rfl
                simp only [Act.put, List.setIfInBounds_toArray, List.set_cons_zero, List.set_cons_succ]
                refine wpAnyH_take (i := 12) (oi := { dst := some 124, op := Op.move (Operand.tmp 10), type := 26, pos := "law.go:100", after := #[{ on := 3, ground := Ground.guard }], guard := some (3, true) }) (v := ?vps2_12) rfl (by kernel_rfl) (by kernel_rfl) (by kernel_rfl) (fun _ _ _ h => h) (Or.inl ⟨by rfl, ?yps2_12⟩) (by assumption) ?tps2_12
                case yps2_12 => (intro w hSw; try dsimp only at hSw); go_simp; try with_reducible rfl
                simp only [Act.put, List.setIfInBounds_toArray, List.set_cons_zero, List.set_cons_succ]
                refine wpAnyH_take (i := 13) (oi := { dst := some 125, op := Op.slice 26 (Operand.tmp 124) (some (Operand.const (Value.int IntKind.i64 1))) none none, type := 26, pos := "law.go:100", after := #[{ on := 12, ground := Ground.data }, { on := 3, ground := Ground.guard }], guard := some (3, true) }) (v := ?vps2_13) rfl (by kernel_rfl) (by kernel_rfl) (by kernel_rfl) (fun _ _ _ h => h) (Or.inl ⟨by rfl, ?yps2_13⟩) (by assumption) ?tps2_13
                case yps2_13 => (intro w hSw; try dsimp only at hSw); go_simp; try with_reducible rfl
                simp only [Act.put, List.setIfInBounds_toArray, List.set_cons_zero, List.set_cons_succ]
                refine wpAnyH_ready (rs := [14]) (by kernel_rfl) (by simp) ?_
                refine AllReadyH.cons (o := { dst := some 126, op := Op.call { callee := Callee.value (Operand.func 24), args := #[Operand.tmp 116, Operand.tmp 118, Operand.tmp 119, Operand.tmp 123, Operand.tmp 125], argTypes := #[9, 3, 3, 9, 26] }, type := 4, pos := "law.go:100", after := #[{ on := 4, ground := Ground.data }, { on := 6, ground := Ground.data }, { on := 7, ground := Ground.data }, { on := 11, ground := Ground.data }, { on := 13, ground := Ground.data }, { on := 3, ground := Ground.chain }, { on := 3, ground := Ground.guard }], guard := some (3, true) }) rfl (fun K hK => ?_) AllReadyH.nil
                go_simp
                (with_reducible refine (HVS.out _ _ _ h0 (HT5.out.below hbd) (hD _ hbd)).mono ?_)
                rintro e U10 ⟨rfl, hb10⟩
                try go_wp2_with fail
                have hb1 := below_step hbd hb10
                refine hK.out _ _ (HCZ5.out _ hb1) (fun hHeld' => ?_)
                clear hK K hHeld
                have hHeld := hHeld'; clear hHeld'
                try simp only [Act.put, List.setIfInBounds_toArray, List.set_cons_zero, List.set_cons_succ]
                refine wpAnyH_take (i := 15) (oi := { dst := some 127, op := Op.pick (Operand.tmp 115) (Operand.tmp 126) (Operand.const (Value.bool false)), type := 4, pos := "law.go:100", after := #[{ on := 3, ground := Ground.data }, { on := 14, ground := Ground.data }], guard := none }) (v := ?vps2_15) rfl (by kernel_rfl) (by kernel_rfl) (by kernel_rfl) (fun _ _ _ h => h) (Or.inl ⟨by rfl, ?yps2_15⟩) (by assumption) ?tps2_15
                case yps2_15 => (intro w hSw; try dsimp only at hSw); go_simp; try with_reducible rfl
                simp only [Act.put, List.setIfInBounds_toArray, List.set_cons_zero, List.set_cons_succ]
                refine wpAnyH_take (i := 16) (oi := { dst := some 14, op := Op.assign (Operand.tmp 127), type := 4, pos := "law.go:100", after := #[{ on := 15, ground := Ground.data }, { on := 14, ground := Ground.chain }, { on := 0, ground := Ground.phase }, { on := 1, ground := Ground.phase }, { on := 2, ground := Ground.phase }, { on := 3, ground := Ground.phase }, { on := 4, ground := Ground.phase }, { on := 5, ground := Ground.phase }, { on := 6, ground := Ground.phase }, { on := 7, ground := Ground.phase }, { on := 8, ground := Ground.phase }, { on := 9, ground := Ground.phase }, { on := 10, ground := Ground.phase }, { on := 11, ground := Ground.phase }, { on := 12, ground := Ground.phase }, { on := 13, ground := Ground.phase }, { on := 14, ground := Ground.phase }, { on := 15, ground := Ground.phase }], guard := none }) (v := ?vps2_16) rfl (by kernel_rfl) (by kernel_rfl) (by kernel_rfl) (fun _ _ _ h => h) (Or.inl ⟨by rfl, ?yps2_16⟩) (by assumption) ?tps2_16
                case yps2_16 => (intro w hSw; try dsimp only at hSw); go_simp; try with_reducible rfl
                simp only [Act.put, List.setIfInBounds_toArray, List.set_cons_zero, List.set_cons_succ]
                refine wpAnyH_done (by kernel_rfl) ?_ _
                go_wp2_with fail
                go_ret
                exact ⟨rfl, below_step H5.out.1.2.2 hb1⟩
            · have hd0 : decide ((0 : Int) < (X.length : Int)) = false := decide_eq_false (by omega)
              have hd2 : ¬ ((0 : Int) < (X.length : Int)) := by omega
              have hx0 : X.length = 0 := by omega
              have hbd := hb.drew; clear hb
              refine wp_region_held_drew (S := (fun v => v.cell? ⟨b, off + i, none⟩ = some (.string z))) (by kernel_rfl) (HCZ5.out _ hbd) (fun hHeld => ?_)
              refine wpAnyH_take (i := 0) (oi := { dst := some 112, op := Op.move (Operand.tmp 10), type := 26, pos := "law.go:100", after := #[], guard := none }) (v := ?vcs2_0) rfl (by kernel_rfl) (by kernel_rfl) (by kernel_rfl) (fun _ _ _ h => h) (Or.inl ⟨by rfl, ?ycs2_0⟩) (by assumption) ?tcs2_0
              case ycs2_0 => (intro w hSw; try dsimp only at hSw); go_simp; try with_reducible rfl
              simp only [Act.put, List.setIfInBounds_toArray, List.set_cons_zero, List.set_cons_succ]
              refine wpAnyH_take (i := 1) (oi := { dst := some 113, op := Op.call { callee := Callee.builtin Go.Builtin.len, args := #[Operand.tmp 112], argTypes := #[26] }, type := 3, pos := "law.go:100", after := #[{ on := 0, ground := Ground.data }], guard := none }) (v := ?vcs2_1) rfl (by kernel_rfl) (by kernel_rfl) (by kernel_rfl) (fun _ _ _ h => h) (Or.inl ⟨by rfl, ?ycs2_1⟩) (by assumption) ?tcs2_1
              case ycs2_1 => (intro w hSw; try dsimp only at hSw); go_simp; try with_reducible rfl
              simp only [Act.put, List.setIfInBounds_toArray, List.set_cons_zero, List.set_cons_succ]
              refine wpAnyH_take (i := 2) (oi := { dst := some 114, op := Op.binOp BinOp.gtr 3 (Operand.tmp 113) (Operand.const (Value.int IntKind.i64 0)) 3, type := 4, pos := "law.go:100", after := #[{ on := 1, ground := Ground.data }], guard := none }) (v := ?vcs2_2) rfl (by kernel_rfl) (by kernel_rfl) (by kernel_rfl) (fun _ _ _ h => h) (Or.inl ⟨by rfl, ?ycs2_2⟩) (by assumption) ?tcs2_2
              case ycs2_2 => (intro w hSw; try dsimp only at hSw); go_simp; try with_reducible rfl
              simp only [Act.put, List.setIfInBounds_toArray, List.set_cons_zero, List.set_cons_succ]
              refine wpAnyH_take (i := 3) (oi := { dst := some 115, op := Op.move (Operand.tmp 114), type := 4, pos := "law.go:100", after := #[{ on := 2, ground := Ground.data }], guard := none }) (v := ?vcs2_3) rfl (by kernel_rfl) (by kernel_rfl) (by kernel_rfl) (fun _ _ _ h => h) (Or.inl ⟨by rfl, ?ycs2_3⟩) (by assumption) ?tcs2_3
              case ycs2_3 => (intro w hSw; try dsimp only at hSw); go_simp; try with_reducible rfl
              simp only [Act.put, List.setIfInBounds_toArray, List.set_cons_zero, List.set_cons_succ]
              refine wpAnyH_take (i := 4) (oi := { dst := some 116, op := Op.move (Operand.tmp 6), type := 9, pos := "law.go:100", after := #[{ on := 3, ground := Ground.guard }], guard := some (3, true) }) (v := undef) rfl (by kernel_rfl) (by kernel_rfl) (by kernel_rfl) (fun _ _ _ h => h) (Or.inr ⟨by rfl, rfl⟩) (by assumption) ?_
              simp only [Act.put, List.setIfInBounds_toArray, List.set_cons_zero, List.set_cons_succ]
              refine wpAnyH_take (i := 5) (oi := { dst := some 117, op := Op.move (Operand.tmp 0), type := 26, pos := "law.go:100", after := #[{ on := 3, ground := Ground.guard }], guard := some (3, true) }) (v := undef) rfl (by kernel_rfl) (by kernel_rfl) (by kernel_rfl) (fun _ _ _ h => h) (Or.inr ⟨by rfl, rfl⟩) (by assumption) ?_
              simp only [Act.put, List.setIfInBounds_toArray, List.set_cons_zero, List.set_cons_succ]
              refine wpAnyH_take (i := 6) (oi := { dst := some 118, op := Op.call { callee := Callee.builtin Go.Builtin.len, args := #[Operand.tmp 117], argTypes := #[26] }, type := 3, pos := "law.go:100", after := #[{ on := 5, ground := Ground.data }, { on := 3, ground := Ground.guard }], guard := some (3, true) }) (v := undef) rfl (by kernel_rfl) (by kernel_rfl) (by kernel_rfl) (fun _ _ _ h => h) (Or.inr ⟨by rfl, rfl⟩) (by assumption) ?_
              simp only [Act.put, List.setIfInBounds_toArray, List.set_cons_zero, List.set_cons_succ]
              refine wpAnyH_take (i := 7) (oi := { dst := some 119, op := Op.move (Operand.tmp 1), type := 3, pos := "law.go:100", after := #[{ on := 3, ground := Ground.guard }], guard := some (3, true) }) (v := undef) rfl (by kernel_rfl) (by kernel_rfl) (by kernel_rfl) (fun _ _ _ h => h) (Or.inr ⟨by rfl, rfl⟩) (by assumption) ?_
              simp only [Act.put, List.setIfInBounds_toArray, List.set_cons_zero, List.set_cons_succ]
              refine wpAnyH_take (i := 8) (oi := { dst := some 120, op := Op.move (Operand.tmp 0), type := 26, pos := "law.go:100", after := #[{ on := 3, ground := Ground.guard }], guard := some (3, true) }) (v := undef) rfl (by kernel_rfl) (by kernel_rfl) (by kernel_rfl) (fun _ _ _ h => h) (Or.inr ⟨by rfl, rfl⟩) (by assumption) ?_
              simp only [Act.put, List.setIfInBounds_toArray, List.set_cons_zero, List.set_cons_succ]
              refine wpAnyH_take (i := 9) (oi := { dst := some 121, op := Op.move (Operand.tmp 1), type := 3, pos := "law.go:100", after := #[{ on := 3, ground := Ground.guard }], guard := some (3, true) }) (v := undef) rfl (by kernel_rfl) (by kernel_rfl) (by kernel_rfl) (fun _ _ _ h => h) (Or.inr ⟨by rfl, rfl⟩) (by assumption) ?_
              simp only [Act.put, List.setIfInBounds_toArray, List.set_cons_zero, List.set_cons_succ]
              refine wpAnyH_take (i := 10) (oi := { dst := some 122, op := Op.indexAddr 26 (Operand.tmp 120) (Operand.tmp 121), type := 0, pos := "law.go:100", after := #[{ on := 8, ground := Ground.data }, { on := 9, ground := Ground.data }, { on := 3, ground := Ground.guard }], guard := some (3, true) }) (v := undef) rfl (by kernel_rfl) (by kernel_rfl) (by kernel_rfl) (fun _ _ _ h => h) (Or.inr ⟨by rfl, rfl⟩) (by assumption) ?_
              simp only [Act.put, List.setIfInBounds_toArray, List.set_cons_zero, List.set_cons_succ]
              refine wpAnyH_take (i := 11) (oi := { dst := some 123, op := Op.load 9 (Operand.tmp 122), type := 9, pos := "law.go:100", after := #[{ on := 10, ground := Ground.data }, { on := 3, ground := Ground.guard }], guard := some (3, true) }) (v := undef) rfl (by kernel_rfl) (by kernel_rfl) (by kernel_rfl) (fun _ _ _ h => h) (Or.inr ⟨by rfl, rfl⟩) (by assumption) ?_
              simp only [Act.put, List.setIfInBounds_toArray, List.set_cons_zero, List.set_cons_succ]
              refine wpAnyH_take (i := 12) (oi := { dst := some 124, op := Op.move (Operand.tmp 10), type := 26, pos := "law.go:100", after := #[{ on := 3, ground := Ground.guard }], guard := some (3, true) }) (v := undef) rfl (by kernel_rfl) (by kernel_rfl) (by kernel_rfl) (fun _ _ _ h => h) (Or.inr ⟨by rfl, rfl⟩) (by assumption) ?_
              simp only [Act.put, List.setIfInBounds_toArray, List.set_cons_zero, List.set_cons_succ]
              refine wpAnyH_take (i := 13) (oi := { dst := some 125, op := Op.slice 26 (Operand.tmp 124) (some (Operand.const (Value.int IntKind.i64 1))) none none, type := 26, pos := "law.go:100", after := #[{ on := 12, ground := Ground.data }, { on := 3, ground := Ground.guard }], guard := some (3, true) }) (v := undef) rfl (by kernel_rfl) (by kernel_rfl) (by kernel_rfl) (fun _ _ _ h => h) (Or.inr ⟨by rfl, rfl⟩) (by assumption) ?_
              simp only [Act.put, List.setIfInBounds_toArray, List.set_cons_zero, List.set_cons_succ]
              refine wpAnyH_take (i := 14) (oi := { dst := some 126, op := Op.call { callee := Callee.value (Operand.func 24), args := #[Operand.tmp 116, Operand.tmp 118, Operand.tmp 119, Operand.tmp 123, Operand.tmp 125], argTypes := #[9, 3, 3, 9, 26] }, type := 4, pos := "law.go:100", after := #[{ on := 4, ground := Ground.data }, { on := 6, ground := Ground.data }, { on := 7, ground := Ground.data }, { on := 11, ground := Ground.data }, { on := 13, ground := Ground.data }, { on := 3, ground := Ground.chain }, { on := 3, ground := Ground.guard }], guard := some (3, true) }) (v := undef) rfl (by kernel_rfl) (by kernel_rfl) (by kernel_rfl) (fun _ _ _ h => h) (Or.inr ⟨by rfl, rfl⟩) (by assumption) ?_
              simp only [Act.put, List.setIfInBounds_toArray, List.set_cons_zero, List.set_cons_succ]
              refine wpAnyH_take (i := 15) (oi := { dst := some 127, op := Op.pick (Operand.tmp 115) (Operand.tmp 126) (Operand.const (Value.bool false)), type := 4, pos := "law.go:100", after := #[{ on := 3, ground := Ground.data }, { on := 14, ground := Ground.data }], guard := none }) (v := ?vcs2_15) rfl (by kernel_rfl) (by kernel_rfl) (by kernel_rfl) (fun _ _ _ h => h) (Or.inl ⟨by rfl, ?ycs2_15⟩) (by assumption) ?tcs2_15
              case ycs2_15 => (intro w hSw; try dsimp only at hSw); go_simp; try with_reducible rfl
              simp only [Act.put, List.setIfInBounds_toArray, List.set_cons_zero, List.set_cons_succ]
              refine wpAnyH_take (i := 16) (oi := { dst := some 14, op := Op.assign (Operand.tmp 127), type := 4, pos := "law.go:100", after := #[{ on := 15, ground := Ground.data }, { on := 14, ground := Ground.chain }, { on := 0, ground := Ground.phase }, { on := 1, ground := Ground.phase }, { on := 2, ground := Ground.phase }, { on := 3, ground := Ground.phase }, { on := 4, ground := Ground.phase }, { on := 5, ground := Ground.phase }, { on := 6, ground := Ground.phase }, { on := 7, ground := Ground.phase }, { on := 8, ground := Ground.phase }, { on := 9, ground := Ground.phase }, { on := 10, ground := Ground.phase }, { on := 11, ground := Ground.phase }, { on := 12, ground := Ground.phase }, { on := 13, ground := Ground.phase }, { on := 14, ground := Ground.phase }, { on := 15, ground := Ground.phase }], guard := none }) (v := ?vcs2_16) rfl (by kernel_rfl) (by kernel_rfl) (by kernel_rfl) (fun _ _ _ h => h) (Or.inl ⟨by rfl, ?ycs2_16⟩) (by assumption) ?tcs2_16
              case ycs2_16 => (intro w hSw; try dsimp only at hSw); go_simp; try with_reducible rfl
              simp only [Act.put, List.setIfInBounds_toArray, List.set_cons_zero, List.set_cons_succ]
              refine wpAnyH_done (by kernel_rfl) ?_ _
              go_wp2_with fail
              go_ret
              exact ⟨rfl, below_step H5.out.1.2.2 hbd⟩
          refine AllReadyH.cons (o := { dst := some 109, op := Op.buildSlice 26 1 #[(0, Operand.tmp 108)], type := 26, pos := "law.go:99", after := #[{ on := 11, ground := Ground.data }], guard := none }) rfl (fun K hK => ?_) AllReadyH.nil
          go_simp
          have hb1 : Below V5.heap.size V5 (U0.alloc (.cells #[.string r2] 9)) := hb.alloc hb.size _
          have hl1 := OneCell.new U0 r2
          refine hK.out _ _ (HCZ5.out _ hb1) (fun hHeld' => ?_)
          clear hK K hHeld
          have hHeld := hHeld'; clear hHeld'
          obtain ⟨U1, hU⟩ : ∃ X, X = U0.alloc (.cells #[.string r2] 9) := ⟨_, rfl⟩
          rw [← hU] at hb1 hl1 hHeld ⊢
          clear hU
          clear hb
          have hb := hb1; have hl := hl1; clear hb1 hl1
          try simp only [Act.put, List.setIfInBounds_toArray, List.set_cons_zero, List.set_cons_succ]
          refine wpAnyH_ready (rs := [8]) (by kernel_rfl) (by simp) ?_
          refine AllReadyH.cons (o := { dst := some 105, op := Op.buildSlice 26 0 #[], type := 26, pos := "law.go:99", after := #[], guard := none }) rfl (fun K hK => ?_) AllReadyH.nil
          go_simp
          have hb1 : Below V5.heap.size V5 (U1.alloc (.cells #[] 9)) := hb.alloc hb.size _
          have ho1 : (U1.alloc (.cells #[] 9)).ownsRow V5.heap.size 9 1 (.slice (some ⟨U1.heap.size, 0, none⟩) 0 0) 0 [] := World.ownsRow_made U1 #[] 0 hb.size (by decide) rfl
          have hl1 := hl.alloc (.cells #[] 9)
          have hne : (Value.slice (some ⟨U1.heap.size, 0, none⟩) 0 0).ownBlock ≠ some U0.heap.size := fun e => Nat.lt_irrefl _ (Option.some.inj e ▸ hl.1)
          clear hl
          refine hK.out _ _ (HCZ5.out _ hb1) (fun hHeld' => ?_)
          clear hK K hHeld
          have hHeld := hHeld'; clear hHeld'
          obtain ⟨U2, hU⟩ : ∃ X, X = U1.alloc (.cells #[] 9) := ⟨_, rfl⟩
          rw [← hU] at hb1 ho1 hl1 hHeld ⊢
          clear hU
          clear hb
          have hb := hb1; have ho := ho1; clear hb1 ho1
          have hl := hl1; clear hl1
          try simp only [Act.put, List.setIfInBounds_toArray, List.set_cons_zero, List.set_cons_succ]
          refine wpAnyH_ready (rs := [10]) (by kernel_rfl) (by simp) ?_
          refine AllReadyH.cons (o := { dst := some 107, op := Op.call { callee := Callee.builtin Go.Builtin.append, args := #[Operand.tmp 105, Operand.tmp 106], argTypes := #[26, 26] }, type := 26, pos := "law.go:99", after := #[{ on := 8, ground := Ground.data }, { on := 9, ground := Ground.data }], guard := none }) rfl (fun K hK => ?_) AllReadyH.nil
          rw [if_pos (show Region.wanted _ _ = true from rfl)]
          refine wp_append_own _ (.tmp 105) (.tmp 106) 26 rfl V5.heap.size 9 i0 (.string ⟨#[]⟩) 1 16 Tryd.underlying26 hi0 hz0 hz1 hz2 rfl (by decide) _ _ _ rfl ho ad X.length c5 (strV X) rfl (by simp [strV]) (hA5.below hb).news (strV_one X) (by unfold maxLen; have := HX1.out; omega) (by have := HX1.out; omega) hb.size ?_
          intro v1 U3 ho1 hg _
          have hb1 : Below V5.heap.size V5 U3 := hb.grown hg hb.size (fun k e => (ho.lt k e).1)
          rw [Nat.zero_add, List.nil_append] at ho1
          have hl1 := hl.grown hg hne; clear hl hne
          refine hK.out _ _ (HCZ5.out _ hb1) (fun hHeld' => ?_)
          clear hK K hHeld
          have hHeld := hHeld'; clear hHeld'
          clear hb ho hg
          have hb := hb1; have ho := ho1; clear hb1 ho1
          have hl := hl1; clear hl1
          try simp only [Act.put, List.setIfInBounds_toArray, List.set_cons_zero, List.set_cons_succ]
          refine wpAnyH_ready (rs := [13]) (by kernel_rfl) (by simp) ?_
          refine AllReadyH.cons (o := { dst := some 110, op := Op.call { callee := Callee.builtin Go.Builtin.append, args := #[Operand.tmp 107, Operand.tmp 109], argTypes := #[26, 26] }, type := 26, pos := "law.go:99", after := #[{ on := 10, ground := Ground.data }, { on := 12, ground := Ground.data }, { on := 10, ground := Ground.chain }], guard := none }) rfl (fun K hK => ?_) AllReadyH.nil
          rw [if_pos (show Region.wanted _ _ = true from rfl)]
          refine wp_append_own _ (.tmp 107) (.tmp 109) 26 rfl V5.heap.size 9 i0 (.string ⟨#[]⟩) 1 16 Tryd.underlying26 hi0 hz0 hz1 hz2 rfl (by decide) _ _ _ rfl ho ⟨U0.heap.size, 0, none⟩ 1 1 [.string r2] rfl rfl hl.2 (by simp [Value.oneCell']) (by unfold maxLen; have := HX1.out; omega) (by have := HX1.out; omega) hb.size ?_
          intro v9 U4 ho9 hg _
          have hb1 : Below V5.heap.size V5 U4 := hb.grown hg hb.size (fun k e => (ho.lt k e).1)
          obtain ⟨a9, c9, rfl, hA9⟩ := (show StrOwn U4 V5.heap.size v9 (X ++ [r2]) from by unfold StrOwn strV; rw [List.length_append, List.map_append]; first | exact ho9 | (rw [Nat.zero_add] at ho9; exact ho9)).arg
          rw [List.length_append, List.length_singleton]
          refine hK.out _ _ (HCZ5.out _ hb1) (fun hHeld' => ?_)
          clear hK K hHeld
          have hHeld := hHeld'; clear hHeld'
          clear hb ho hg hl ho9
          have hb := hb1; clear hb1
          try simp only [Act.put, List.setIfInBounds_toArray, List.set_cons_zero, List.set_cons_succ]
          refine wpAnyH_ready (rs := [14]) (by kernel_rfl) (by simp) ?_
          refine AllReadyH.cons (o := { dst := some 111, op := Op.call { callee := Callee.value (Operand.func 24), args := #[Operand.tmp 97, Operand.tmp 99, Operand.tmp 100, Operand.tmp 104, Operand.tmp 110], argTypes := #[9, 3, 3, 9, 26] }, type := 4, pos := "law.go:99", after := #[{ on := 0, ground := Ground.data }, { on := 2, ground := Ground.data }, { on := 3, ground := Ground.data }, { on := 7, ground := Ground.data }, { on := 13, ground := Ground.data }, { on := 13, ground := Ground.chain }], guard := none }) rfl (fun K hK => ?_) AllReadyH.nil
          go_simp
          (with_reducible refine (HVL.out _ _ _ (HT5.out.below hb) hA9).mono ?_)
          rintro e U9 ⟨rfl, hb9⟩
          try go_wp2_with fail
          have hb1 := below_step hb hb9
          refine hK.out _ _ (HCZ5.out _ hb1) (fun hHeld' => ?_)
          clear hK K hHeld
          have hHeld := hHeld'; clear hHeld'
          clear hb hb9 hA9
          have hb := hb1; clear hb1
          try simp only [Act.put, List.setIfInBounds_toArray, List.set_cons_zero, List.set_cons_succ]
          refine wpAnyH_take (i := 15) (oi := { dst := some 13, op := Op.assign (Operand.tmp 111), type := 4, pos := "law.go:99", after := #[{ on := 14, ground := Ground.data }, { on := 14, ground := Ground.chain }, { on := 0, ground := Ground.phase }, { on := 1, ground := Ground.phase }, { on := 2, ground := Ground.phase }, { on := 3, ground := Ground.phase }, { on := 4, ground := Ground.phase }, { on := 5, ground := Ground.phase }, { on := 6, ground := Ground.phase }, { on := 7, ground := Ground.phase }, { on := 8, ground := Ground.phase }, { on := 9, ground := Ground.phase }, { on := 10, ground := Ground.phase }, { on := 11, ground := Ground.phase }, { on := 12, ground := Ground.phase }, { on := 13, ground := Ground.phase }, { on := 14, ground := Ground.phase }], guard := none }) (v := ?vxs13_15) rfl (by kernel_rfl) (by kernel_rfl) (by kernel_rfl) (fun _ _ _ h => h) (Or.inl ⟨by rfl, ?yxs13_15⟩) hHeld ?txs13_15
          case yxs13_15 => (intro w hSw; try dsimp only at hSw); go_simp; try with_reducible rfl
          simp only [Act.put, List.setIfInBounds_toArray, List.set_cons_zero, List.set_cons_succ]
          refine wpAnyH_done (by kernel_rfl) ?_ _
          go_wp2_with fail
          by_cases h0 : 0 < X.length
          · obtain ⟨b5, o5, he5, _⟩ := hA5.place h0
            cases he5
            have hd1 : decide ((0 : Int) < (X.length : Int)) = true := decide_eq_true (by omega)
            have hd2 : (0 : Int) < (X.length : Int) := by omega
            have hk1 : (1 : Int) ≤ (X.length : Int) := by omega
            have hk2 : (X.length : Int) ≤ (c5 : Int) := by have := hA5.1; omega
            have hk3 : (1 : Int) ≤ (c5 : Int) := by omega
            have hk4 := hA5.2.1
            unfold maxLen at hk4
            by_cases hc1 : c5 = 1
            · have hx1 : X.length = 1 := by omega
              subst hc1
              have hD : ∀ V, StrA V (some ⟨b5, o5, none⟩) 0 (X.drop 1) := fun V => ⟨by rw [List.length_drop]; omega, by decide, fun j hj => absurd hj (by rw [List.length_drop]; omega)⟩
              have HVS1 := Lib.hid (show ∀ V a' c', Tab V → StrA V a' c' (X.drop 1) → Calls Tryd.prog 24 #[.string r2, .int .i64 L.length, .int .i64 i, .string z, .slice a' 0 c'] V (BoolEnd false V) from fun V a' c' h hS => by have := HVS.out V a' c' h0 h hS; simpa only [hx1, Nat.sub_self] using this)
              have hbd := hb.drew; clear hb
              refine wp_region_held_drew (S := (fun v => v.cell? ⟨b, off + i, none⟩ = some (.string z))) (by kernel_rfl) (HCZ5.out _ hbd) (fun hHeld => ?_)
              refine wpAnyH_take (i := 0) (oi := { dst := some 112, op := Op.move (Operand.tmp 10), type := 26, pos := "law.go:100", after := #[], guard := none }) (v := ?vqs3_0) rfl (by kernel_rfl) (by kernel_rfl) (by kernel_rfl) (fun _ _ _ h => h) (Or.inl ⟨by rfl, ?yqs3_0⟩) (by assumption) ?tqs3_0
              case yqs3_0 => (intro w hSw; try dsimp only at hSw); go_simp; try with_reducible rfl
              simp only [Act.put, List.setIfInBounds_toArray, List.set_cons_zero, List.set_cons_succ]
              refine wpAnyH_take (i := 1) (oi := { dst := some 113, op := Op.call { callee := Callee.builtin Go.Builtin.len, args := #[Operand.tmp 112], argTypes := #[26] }, type := 3, pos := "law.go:100", after := #[{ on := 0, ground := Ground.data }], guard := none }) (v := ?vqs3_1) rfl (by kernel_rfl) (by kernel_rfl) (by kernel_rfl) (fun _ _ _ h => h) (Or.inl ⟨by rfl, ?yqs3_1⟩) (by assumption) ?tqs3_1
              case yqs3_1 => (intro w hSw; try dsimp only at hSw); go_simp; try with_reducible rfl
              simp only [Act.put, List.setIfInBounds_toArray, List.set_cons_zero, List.set_cons_succ]
              refine wpAnyH_take (i := 2) (oi := { dst := some 114, op := Op.binOp BinOp.gtr 3 (Operand.tmp 113) (Operand.const (Value.int IntKind.i64 0)) 3, type := 4, pos := "law.go:100", after := #[{ on := 1, ground := Ground.data }], guard := none }) (v := ?vqs3_2) rfl (by kernel_rfl) (by kernel_rfl) (by kernel_rfl) (fun _ _ _ h => h) (Or.inl ⟨by rfl, ?yqs3_2⟩) (by assumption) ?tqs3_2
              case yqs3_2 => (intro w hSw; try dsimp only at hSw); go_simp; try with_reducible rfl
              simp only [Act.put, List.setIfInBounds_toArray, List.set_cons_zero, List.set_cons_succ]
              refine wpAnyH_take (i := 3) (oi := { dst := some 115, op := Op.move (Operand.tmp 114), type := 4, pos := "law.go:100", after := #[{ on := 2, ground := Ground.data }], guard := none }) (v := ?vqs3_3) rfl (by kernel_rfl) (by kernel_rfl) (by kernel_rfl) (fun _ _ _ h => h) (Or.inl ⟨by rfl, ?yqs3_3⟩) (by assumption) ?tqs3_3
              case yqs3_3 => (intro w hSw; try dsimp only at hSw); go_simp; try with_reducible rfl
              simp only [Act.put, List.setIfInBounds_toArray, List.set_cons_zero, List.set_cons_succ]
              refine wpAnyH_take (i := 4) (oi := { dst := some 116, op := Op.move (Operand.tmp 6), type := 9, pos := "law.go:100", after := #[{ on := 3, ground := Ground.guard }], guard := some (3, true) }) (v := ?vqs3_4) rfl (by kernel_rfl) (by kernel_rfl) (by kernel_rfl) (fun _ _ _ h => h) (Or.inl ⟨by rfl, ?yqs3_4⟩) (by assumption) ?tqs3_4
              case yqs3_4 => (intro w hSw; try dsimp only at hSw); go_simp; try with_reducible rfl
              simp only [Act.put, List.setIfInBounds_toArray, List.set_cons_zero, List.set_cons_succ]
              refine wpAnyH_take (i := 5) (oi := { dst := some 117, op := Op.move (Operand.tmp 0), type := 26, pos := "law.go:100", after := #[{ on := 3, ground := Ground.guard }], guard := some (3, true) }) (v := ?vqs3_5) rfl (by kernel_rfl) (by kernel_rfl) (by kernel_rfl) (fun _ _ _ h => h) (Or.inl ⟨by rfl, ?yqs3_5⟩) (by assumption) ?tqs3_5
              case yqs3_5 => (intro w hSw; try dsimp only at hSw); go_simp; try with_reducible rfl
              simp only [Act.put, List.setIfInBounds_toArray, List.set_cons_zero, List.set_cons_succ]
              refine wpAnyH_take (i := 6) (oi := { dst := some 118, op := Op.call { callee := Callee.builtin Go.Builtin.len, args := #[Operand.tmp 117], argTypes := #[26] }, type := 3, pos := "law.go:100", after := #[{ on := 5, ground := Ground.data }, { on := 3, ground := Ground.guard }], guard := some (3, true) }) (v := ?vqs3_6) rfl (by kernel_rfl) (by kernel_rfl) (by kernel_rfl) (fun _ _ _ h => h) (Or.inl ⟨by rfl, ?yqs3_6⟩) (by assumption) ?tqs3_6
              case yqs3_6 => (intro w hSw; try dsimp only at hSw); go_simp; try with_reducible rfl
              simp only [Act.put, List.setIfInBounds_toArray, List.set_cons_zero, List.set_cons_succ]
              refine wpAnyH_take (i := 7) (oi := { dst := some 119, op := Op.move (Operand.tmp 1), type := 3, pos := "law.go:100", after := #[{ on := 3, ground := Ground.guard }], guard := some (3, true) }) (v := ?vqs3_7) rfl (by kernel_rfl) (by kernel_rfl) (by kernel_rfl) (fun _ _ _ h => h) (Or.inl ⟨by rfl, ?yqs3_7⟩) (by assumption) ?tqs3_7
              case yqs3_7 => (intro w hSw; try dsimp only at hSw); go_simp; try with_reducible rfl
              simp only [Act.put, List.setIfInBounds_toArray, List.set_cons_zero, List.set_cons_succ]
              refine wpAnyH_take (i := 8) (oi := { dst := some 120, op := Op.move (Operand.tmp 0), type := 26, pos := "law.go:100", after := #[{ on := 3, ground := Ground.guard }], guard := some (3, true) }) (v := ?vqs3_8) rfl (by kernel_rfl) (by kernel_rfl) (by kernel_rfl) (fun _ _ _ h => h) (Or.inl ⟨by rfl, ?yqs3_8⟩) (by assumption) ?tqs3_8
              case yqs3_8 => (intro w hSw; try dsimp only at hSw); go_simp; try with_reducible rfl
              simp only [Act.put, List.setIfInBounds_toArray, List.set_cons_zero, List.set_cons_succ]
              refine wpAnyH_take (i := 9) (oi := { dst := some 121, op := Op.move (Operand.tmp 1), type := 3, pos := "law.go:100", after := #[{ on := 3, ground := Ground.guard }], guard := some (3, true) }) (v := ?vqs3_9) rfl (by kernel_rfl) (by kernel_rfl) (by kernel_rfl) (fun _ _ _ h => h) (Or.inl ⟨by rfl, ?yqs3_9⟩) (by assumption) ?tqs3_9
              case yqs3_9 => (intro w hSw; try dsimp only at hSw); go_simp; try with_reducible rfl
              simp only [Act.put, List.setIfInBounds_toArray, List.set_cons_zero, List.set_cons_succ]
              refine wpAnyH_take (i := 10) (oi := { dst := some 122, op := Op.indexAddr 26 (Operand.tmp 120) (Operand.tmp 121), type := 0, pos := "law.go:100", after := #[{ on := 8, ground := Ground.data }, { on := 9, ground := Ground.data }, { on := 3, ground := Ground.guard }], guard := some (3, true) }) (v := ?vqs3_10) rfl (by kernel_rfl) (by kernel_rfl) (by kernel_rfl) (fun _ _ _ h => h) (Or.inl ⟨by rfl, ?yqs3_10⟩) (by assumption) ?tqs3_10
              case yqs3_10 => (intro w hSw; try dsimp only at hSw); go_simp; try with_reducible rfl
              simp only [Act.put, List.setIfInBounds_toArray, List.set_cons_zero, List.set_cons_succ]
              refine wpAnyH_take (i := 11) (oi := { dst := some 123, op := Op.load 9 (Operand.tmp 122), type := 9, pos := "law.go:100", after := #[{ on := 10, ground := Ground.data }, { on := 3, ground := Ground.guard }], guard := some (3, true) }) (v := ?vqs3_11) rfl (by kernel_rfl) (by kernel_rfl) (by kernel_rfl) (fun _ _ _ h => h) (Or.inl ⟨by rfl, ?yqs3_11⟩) (by assumption) ?tqs3_11
              case yqs3_11 => (intro w hSw; try dsimp only at hSw); go_simp; try with_reducible rfl
              simp only [Act.put, List.setIfInBounds_toArray, List.set_cons_zero, List.set_cons_succ]
              refine wpAnyH_take (i := 12) (oi := { dst := some 124, op := Op.move (Operand.tmp 10), type := 26, pos := "law.go:100", after := #[{ on := 3, ground := Ground.guard }], guard := some (3, true) }) (v := ?vqs3_12) rfl (by kernel_rfl) (by kernel_rfl) (by kernel_rfl) (fun _ _ _ h => h) (Or.inl ⟨by rfl, ?yqs3_12⟩) (by assumption) ?tqs3_12
              case yqs3_12 => (intro w hSw; try dsimp only at hSw); go_simp; try with_reducible rfl
              simp only [Act.put, List.setIfInBounds_toArray, List.set_cons_zero, List.set_cons_succ]
              refine wpAnyH_take (i := 13) (oi := { dst := some 125, op := Op.slice 26 (Operand.tmp 124) (some (Operand.const (Value.int IntKind.i64 1))) none none, type := 26, pos := "law.go:100", after := #[{ on := 12, ground := Ground.data }, { on := 3, ground := Ground.guard }], guard := some (3, true) }) (v := ?vqs3_13) rfl (by kernel_rfl) (by kernel_rfl) (by kernel_rfl) (fun _ _ _ h => h) (Or.inl ⟨by rfl, ?yqs3_13⟩) (by assumption) ?tqs3_13
              case yqs3_13 => (intro w hSw; try dsimp only at hSw); go_simp; try with_reducible rfl
              simp only [Act.put, List.setIfInBounds_toArray, List.set_cons_zero, List.set_cons_succ]
              refine wpAnyH_ready (rs := [14]) (by kernel_rfl) (by simp) ?_
              refine AllReadyH.cons (o := { dst := some 126, op := Op.call { callee := Callee.value (Operand.func 24), args := #[Operand.tmp 116, Operand.tmp 118, Operand.tmp 119, Operand.tmp 123, Operand.tmp 125], argTypes := #[9, 3, 3, 9, 26] }, type := 4, pos := "law.go:100", after := #[{ on := 4, ground := Ground.data }, { on := 6, ground := Ground.data }, { on := 7, ground := Ground.data }, { on := 11, ground := Ground.data }, { on := 13, ground := Ground.data }, { on := 3, ground := Ground.chain }, { on := 3, ground := Ground.guard }], guard := some (3, true) }) rfl (fun K hK => ?_) AllReadyH.nil
              go_simp
              (with_reducible refine (HVS1.out _ _ _ (HT5.out.below hbd) ((fun V (_ : Below V5.heap.size V5 V) => hD V) _ hbd)).mono ?_)
              rintro e U10 ⟨rfl, hb10⟩
              try go_wp2_with fail
              have hb1 := below_step hbd hb10
              refine hK.out _ _ (HCZ5.out _ hb1) (fun hHeld' => ?_)
              clear hK K hHeld
              have hHeld := hHeld'; clear hHeld'
              try simp only [Act.put, List.setIfInBounds_toArray, List.set_cons_zero, List.set_cons_succ]
              refine wpAnyH_take (i := 15) (oi := { dst := some 127, op := Op.pick (Operand.tmp 115) (Operand.tmp 126) (Operand.const (Value.bool false)), type := 4, pos := "law.go:100", after := #[{ on := 3, ground := Ground.data }, { on := 14, ground := Ground.data }], guard := none }) (v := ?vqs3_15) rfl (by kernel_rfl) (by kernel_rfl) (by kernel_rfl) (fun _ _ _ h => h) (Or.inl ⟨by rfl, ?yqs3_15⟩) (by assumption) ?tqs3_15
              case yqs3_15 => (intro w hSw; try dsimp only at hSw); go_simp; try with_reducible rfl
              simp only [Act.put, List.setIfInBounds_toArray, List.set_cons_zero, List.set_cons_succ]
              refine wpAnyH_take (i := 16) (oi := { dst := some 14, op := Op.assign (Operand.tmp 127), type := 4, pos := "law.go:100", after := #[{ on := 15, ground := Ground.data }, { on := 14, ground := Ground.chain }, { on := 0, ground := Ground.phase }, { on := 1, ground := Ground.phase }, { on := 2, ground := Ground.phase }, { on := 3, ground := Ground.phase }, { on := 4, ground := Ground.phase }, { on := 5, ground := Ground.phase }, { on := 6, ground := Ground.phase }, { on := 7, ground := Ground.phase }, { on := 8, ground := Ground.phase }, { on := 9, ground := Ground.phase }, { on := 10, ground := Ground.phase }, { on := 11, ground := Ground.phase }, { on := 12, ground := Ground.phase }, { on := 13, ground := Ground.phase }, { on := 14, ground := Ground.phase }, { on := 15, ground := Ground.phase }], guard := none }) (v := ?vqs3_16) rfl (by kernel_rfl) (by kernel_rfl) (by kernel_rfl) (fun _ _ _ h => h) (Or.inl ⟨by rfl, ?yqs3_16⟩) (by assumption) ?tqs3_16
              case yqs3_16 => (intro w hSw; try dsimp only at hSw); go_simp; try with_reducible rfl
              simp only [Act.put, List.setIfInBounds_toArray, List.set_cons_zero, List.set_cons_succ]
              refine wpAnyH_done (by kernel_rfl) ?_ _
              go_wp2_with fail
              go_ret
              exact ⟨rfl, below_step H5.out.1.2.2 hb1⟩
            · have hc2 : (c5 == 1) = false := by simp; omega
              have hD : ∀ V, Below V5.heap.size V5 V → StrA V (some ⟨b5, o5 + 1, none⟩) (c5 - 1) (X.drop 1) := fun V hb => (hA5.below hb).drop 1
              have hbd := hb.drew; clear hb
              refine wp_region_held_drew (S := (fun v => v.cell? ⟨b, off + i, none⟩ = some (.string z))) (by kernel_rfl) (HCZ5.out _ hbd) (fun hHeld => ?_)
              refine wpAnyH_take (i := 0) (oi := { dst := some 112, op := Op.move (Operand.tmp 10), type := 26, pos := "law.go:100", after := #[], guard := none }) (v := ?vps3_0) rfl (by kernel_rfl) (by kernel_rfl) (by kernel_rfl) (fun _ _ _ h => h) (Or.inl ⟨by rfl, ?yps3_0⟩) (by assumption) ?tps3_0
              case yps3_0 => (intro w hSw; try dsimp only at hSw); go_simp; try with_reducible rfl
              simp only [Act.put, List.setIfInBounds_toArray, List.set_cons_zero, List.set_cons_succ]
              refine wpAnyH_take (i := 1) (oi := { dst := some 113, op := Op.call { callee := Callee.builtin Go.Builtin.len, args := #[Operand.tmp 112], argTypes := #[26] }, type := 3, pos := "law.go:100", after := #[{ on := 0, ground := Ground.data }], guard := none }) (v := ?vps3_1) rfl (by kernel_rfl) (by kernel_rfl) (by kernel_rfl) (fun _ _ _ h => h) (Or.inl ⟨by rfl, ?yps3_1⟩) (by assumption) ?tps3_1
              case yps3_1 => (intro w hSw; try dsimp only at hSw); go_simp; try with_reducible rfl
              simp only [Act.put, List.setIfInBounds_toArray, List.set_cons_zero, List.set_cons_succ]
              refine wpAnyH_take (i := 2) (oi := { dst := some 114, op := Op.binOp BinOp.gtr 3 (Operand.tmp 113) (Operand.const (Value.int IntKind.i64 0)) 3, type := 4, pos := "law.go:100", after := #[{ on := 1, ground := Ground.data }], guard := none }) (v := ?vps3_2) rfl (by kernel_rfl) (by kernel_rfl) (by kernel_rfl) (fun _ _ _ h => h) (Or.inl ⟨by rfl, ?yps3_2⟩) (by assumption) ?tps3_2
              case yps3_2 => (intro w hSw; try dsimp only at hSw); go_simp; try with_reducible rfl
              simp only [Act.put, List.setIfInBounds_toArray, List.set_cons_zero, List.set_cons_succ]
              refine wpAnyH_take (i := 3) (oi := { dst := some 115, op := Op.move (Operand.tmp 114), type := 4, pos := "law.go:100", after := #[{ on := 2, ground := Ground.data }], guard := none }) (v := ?vps3_3) rfl (by kernel_rfl) (by kernel_rfl) (by kernel_rfl) (fun _ _ _ h => h) (Or.inl ⟨by rfl, ?yps3_3⟩) (by assumption) ?tps3_3
              case yps3_3 => (intro w hSw; try dsimp only at hSw); go_simp; try with_reducible rfl
              simp only [Act.put, List.setIfInBounds_toArray, List.set_cons_zero, List.set_cons_succ]
              refine wpAnyH_take (i := 4) (oi := { dst := some 116, op := Op.move (Operand.tmp 6), type := 9, pos := "law.go:100", after := #[{ on := 3, ground := Ground.guard }], guard := some (3, true) }) (v := ?vps3_4) rfl (by kernel_rfl) (by kernel_rfl) (by kernel_rfl) (fun _ _ _ h => h) (Or.inl ⟨by rfl, ?yps3_4⟩) (by assumption) ?tps3_4
              case yps3_4 => (intro w hSw; try dsimp only at hSw); go_simp; try with_reducible rfl
              simp only [Act.put, List.setIfInBounds_toArray, List.set_cons_zero, List.set_cons_succ]
              refine wpAnyH_take (i := 5) (oi := { dst := some 117, op := Op.move (Operand.tmp 0), type := 26, pos := "law.go:100", after := #[{ on := 3, ground := Ground.guard }], guard := some (3, true) }) (v := ?vps3_5) rfl (by kernel_rfl) (by kernel_rfl) (by kernel_rfl) (fun _ _ _ h => h) (Or.inl ⟨by rfl, ?yps3_5⟩) (by assumption) ?tps3_5
              case yps3_5 => (intro w hSw; try dsimp only at hSw); go_simp; try with_reducible rfl
              simp only [Act.put, List.setIfInBounds_toArray, List.set_cons_zero, List.set_cons_succ]
              refine wpAnyH_take (i := 6) (oi := { dst := some 118, op := Op.call { callee := Callee.builtin Go.Builtin.len, args := #[Operand.tmp 117], argTypes := #[26] }, type := 3, pos := "law.go:100", after := #[{ on := 5, ground := Ground.data }, { on := 3, ground := Ground.guard }], guard := some (3, true) }) (v := ?vps3_6) rfl (by kernel_rfl) (by kernel_rfl) (by kernel_rfl) (fun _ _ _ h => h) (Or.inl ⟨by rfl, ?yps3_6⟩) (by assumption) ?tps3_6
              case yps3_6 => (intro w hSw; try dsimp only at hSw); go_simp; try with_reducible rfl
              simp only [Act.put, List.setIfInBounds_toArray, List.set_cons_zero, List.set_cons_succ]
              refine wpAnyH_take (i := 7) (oi := { dst := some 119, op := Op.move (Operand.tmp 1), type := 3, pos := "law.go:100", after := #[{ on := 3, ground := Ground.guard }], guard := some (3, true) }) (v := ?vps3_7) rfl (by kernel_rfl) (by kernel_rfl) (by kernel_rfl) (fun _ _ _ h => h) (Or.inl ⟨by rfl, ?yps3_7⟩) (by assumption) ?tps3_7
              case yps3_7 => (intro w hSw; try dsimp only at hSw); go_simp; try with_reducible rfl
              simp only [Act.put, List.setIfInBounds_toArray, List.set_cons_zero, List.set_cons_succ]
              refine wpAnyH_take (i := 8) (oi := { dst := some 120, op := Op.move (Operand.tmp 0), type := 26, pos := "law.go:100", after := #[{ on := 3, ground := Ground.guard }], guard := some (3, true) }) (v := ?vps3_8) rfl (by kernel_rfl) (by kernel_rfl) (by kernel_rfl) (fun _ _ _ h => h) (Or.inl ⟨by rfl, ?yps3_8⟩) (by assumption) ?tps3_8
              case yps3_8 => (intro w hSw; try dsimp only at hSw); go_simp; try with_reducible rfl
              simp only [Act.put, List.setIfInBounds_toArray, List.set_cons_zero, List.set_cons_succ]
              refine wpAnyH_take (i := 9) (oi := { dst := some 121, op := Op.move (Operand.tmp 1), type := 3, pos := "law.go:100", after := #[{ on := 3, ground := Ground.guard }], guard := some (3, true) }) (v := ?vps3_9) rfl (by kernel_rfl) (by kernel_rfl) (by kernel_rfl) (fun _ _ _ h => h) (Or.inl ⟨by rfl, ?yps3_9⟩) (by assumption) ?tps3_9
              case yps3_9 => (intro w hSw; try dsimp only at hSw); go_simp; try with_reducible rfl
              simp only [Act.put, List.setIfInBounds_toArray, List.set_cons_zero, List.set_cons_succ]
              refine wpAnyH_take (i := 10) (oi := { dst := some 122, op := Op.indexAddr 26 (Operand.tmp 120) (Operand.tmp 121), type := 0, pos := "law.go:100", after := #[{ on := 8, ground := Ground.data }, { on := 9, ground := Ground.data }, { on := 3, ground := Ground.guard }], guard := some (3, true) }) (v := ?vps3_10) rfl (by kernel_rfl) (by kernel_rfl) (by kernel_rfl) (fun _ _ _ h => h) (Or.inl ⟨by rfl, ?yps3_10⟩) (by assumption) ?tps3_10
              case yps3_10 => (intro w hSw; try dsimp only at hSw); go_simp; try with_reducible rfl
              simp only [Act.put, List.setIfInBounds_toArray, List.set_cons_zero, List.set_cons_succ]
              refine wpAnyH_take (i := 11) (oi := { dst := some 123, op := Op.load 9 (Operand.tmp 122), type := 9, pos := "law.go:100", after := #[{ on := 10, ground := Ground.data }, { on := 3, ground := Ground.guard }], guard := some (3, true) }) (v := ?vps3_11) rfl (by kernel_rfl) (by kernel_rfl) (by kernel_rfl) (fun _ _ _ h => h) (Or.inl ⟨by rfl, ?yps3_11⟩) (by assumption) ?tps3_11
              case yps3_11 => (intro w hSw; try dsimp only at hSw); go_simp; try with_reducible rfl
              simp only [Act.put, List.setIfInBounds_toArray, List.set_cons_zero, List.set_cons_succ]
              refine wpAnyH_take (i := 12) (oi := { dst := some 124, op := Op.move (Operand.tmp 10), type := 26, pos := "law.go:100", after := #[{ on := 3, ground := Ground.guard }], guard := some (3, true) }) (v := ?vps3_12) rfl (by kernel_rfl) (by kernel_rfl) (by kernel_rfl) (fun _ _ _ h => h) (Or.inl ⟨by rfl, ?yps3_12⟩) (by assumption) ?tps3_12
              case yps3_12 => (intro w hSw; try dsimp only at hSw); go_simp; try with_reducible rfl
              simp only [Act.put, List.setIfInBounds_toArray, List.set_cons_zero, List.set_cons_succ]
              refine wpAnyH_take (i := 13) (oi := { dst := some 125, op := Op.slice 26 (Operand.tmp 124) (some (Operand.const (Value.int IntKind.i64 1))) none none, type := 26, pos := "law.go:100", after := #[{ on := 12, ground := Ground.data }, { on := 3, ground := Ground.guard }], guard := some (3, true) }) (v := ?vps3_13) rfl (by kernel_rfl) (by kernel_rfl) (by kernel_rfl) (fun _ _ _ h => h) (Or.inl ⟨by rfl, ?yps3_13⟩) (by assumption) ?tps3_13
              case yps3_13 => (intro w hSw; try dsimp only at hSw); go_simp; try with_reducible rfl
              simp only [Act.put, List.setIfInBounds_toArray, List.set_cons_zero, List.set_cons_succ]
              refine wpAnyH_ready (rs := [14]) (by kernel_rfl) (by simp) ?_
              refine AllReadyH.cons (o := { dst := some 126, op := Op.call { callee := Callee.value (Operand.func 24), args := #[Operand.tmp 116, Operand.tmp 118, Operand.tmp 119, Operand.tmp 123, Operand.tmp 125], argTypes := #[9, 3, 3, 9, 26] }, type := 4, pos := "law.go:100", after := #[{ on := 4, ground := Ground.data }, { on := 6, ground := Ground.data }, { on := 7, ground := Ground.data }, { on := 11, ground := Ground.data }, { on := 13, ground := Ground.data }, { on := 3, ground := Ground.chain }, { on := 3, ground := Ground.guard }], guard := some (3, true) }) rfl (fun K hK => ?_) AllReadyH.nil
              go_simp
              (with_reducible refine (HVS.out _ _ _ h0 (HT5.out.below hbd) (hD _ hbd)).mono ?_)
              rintro e U10 ⟨rfl, hb10⟩
              try go_wp2_with fail
              have hb1 := below_step hbd hb10
              refine hK.out _ _ (HCZ5.out _ hb1) (fun hHeld' => ?_)
              clear hK K hHeld
              have hHeld := hHeld'; clear hHeld'
              try simp only [Act.put, List.setIfInBounds_toArray, List.set_cons_zero, List.set_cons_succ]
              refine wpAnyH_take (i := 15) (oi := { dst := some 127, op := Op.pick (Operand.tmp 115) (Operand.tmp 126) (Operand.const (Value.bool false)), type := 4, pos := "law.go:100", after := #[{ on := 3, ground := Ground.data }, { on := 14, ground := Ground.data }], guard := none }) (v := ?vps3_15) rfl (by kernel_rfl) (by kernel_rfl) (by kernel_rfl) (fun _ _ _ h => h) (Or.inl ⟨by rfl, ?yps3_15⟩) (by assumption) ?tps3_15
              case yps3_15 => (intro w hSw; try dsimp only at hSw); go_simp; try with_reducible rfl
              simp only [Act.put, List.setIfInBounds_toArray, List.set_cons_zero, List.set_cons_succ]
              refine wpAnyH_take (i := 16) (oi := { dst := some 14, op := Op.assign (Operand.tmp 127), type := 4, pos := "law.go:100", after := #[{ on := 15, ground := Ground.data }, { on := 14, ground := Ground.chain }, { on := 0, ground := Ground.phase }, { on := 1, ground := Ground.phase }, { on := 2, ground := Ground.phase }, { on := 3, ground := Ground.phase }, { on := 4, ground := Ground.phase }, { on := 5, ground := Ground.phase }, { on := 6, ground := Ground.phase }, { on := 7, ground := Ground.phase }, { on := 8, ground := Ground.phase }, { on := 9, ground := Ground.phase }, { on := 10, ground := Ground.phase }, { on := 11, ground := Ground.phase }, { on := 12, ground := Ground.phase }, { on := 13, ground := Ground.phase }, { on := 14, ground := Ground.phase }, { on := 15, ground := Ground.phase }], guard := none }) (v := ?vps3_16) rfl (by kernel_rfl) (by kernel_rfl) (by kernel_rfl) (fun _ _ _ h => h) (Or.inl ⟨by rfl, ?yps3_16⟩) (by assumption) ?tps3_16
              case yps3_16 => (intro w hSw; try dsimp only at hSw); go_simp; try with_reducible rfl
              simp only [Act.put, List.setIfInBounds_toArray, List.set_cons_zero, List.set_cons_succ]
              refine wpAnyH_done (by kernel_rfl) ?_ _
              go_wp2_with fail
              go_ret
              exact ⟨rfl, below_step H5.out.1.2.2 hb1⟩
          · have hd0 : decide ((0 : Int) < (X.length : Int)) = false := decide_eq_false (by omega)
            have hd2 : ¬ ((0 : Int) < (X.length : Int)) := by omega
            have hx0 : X.length = 0 := by omega
            have hbd := hb.drew; clear hb
            refine wp_region_held_drew (S := (fun v => v.cell? ⟨b, off + i, none⟩ = some (.string z))) (by kernel_rfl) (HCZ5.out _ hbd) (fun hHeld => ?_)
            refine wpAnyH_take (i := 0) (oi := { dst := some 112, op := Op.move (Operand.tmp 10), type := 26, pos := "law.go:100", after := #[], guard := none }) (v := ?vcs3_0) rfl (by kernel_rfl) (by kernel_rfl) (by kernel_rfl) (fun _ _ _ h => h) (Or.inl ⟨by rfl, ?ycs3_0⟩) (by assumption) ?tcs3_0
            case ycs3_0 => (intro w hSw; try dsimp only at hSw); go_simp; try with_reducible rfl
            simp only [Act.put, List.setIfInBounds_toArray, List.set_cons_zero, List.set_cons_succ]
            refine wpAnyH_take (i := 1) (oi := { dst := some 113, op := Op.call { callee := Callee.builtin Go.Builtin.len, args := #[Operand.tmp 112], argTypes := #[26] }, type := 3, pos := "law.go:100", after := #[{ on := 0, ground := Ground.data }], guard := none }) (v := ?vcs3_1) rfl (by kernel_rfl) (by kernel_rfl) (by kernel_rfl) (fun _ _ _ h => h) (Or.inl ⟨by rfl, ?ycs3_1⟩) (by assumption) ?tcs3_1
            case ycs3_1 => (intro w hSw; try dsimp only at hSw); go_simp; try with_reducible rfl
            simp only [Act.put, List.setIfInBounds_toArray, List.set_cons_zero, List.set_cons_succ]
            refine wpAnyH_take (i := 2) (oi := { dst := some 114, op := Op.binOp BinOp.gtr 3 (Operand.tmp 113) (Operand.const (Value.int IntKind.i64 0)) 3, type := 4, pos := "law.go:100", after := #[{ on := 1, ground := Ground.data }], guard := none }) (v := ?vcs3_2) rfl (by kernel_rfl) (by kernel_rfl) (by kernel_rfl) (fun _ _ _ h => h) (Or.inl ⟨by rfl, ?ycs3_2⟩) (by assumption) ?tcs3_2
            case ycs3_2 => (intro w hSw; try dsimp only at hSw); go_simp; try with_reducible rfl
            simp only [Act.put, List.setIfInBounds_toArray, List.set_cons_zero, List.set_cons_succ]
            refine wpAnyH_take (i := 3) (oi := { dst := some 115, op := Op.move (Operand.tmp 114), type := 4, pos := "law.go:100", after := #[{ on := 2, ground := Ground.data }], guard := none }) (v := ?vcs3_3) rfl (by kernel_rfl) (by kernel_rfl) (by kernel_rfl) (fun _ _ _ h => h) (Or.inl ⟨by rfl, ?ycs3_3⟩) (by assumption) ?tcs3_3
            case ycs3_3 => (intro w hSw; try dsimp only at hSw); go_simp; try with_reducible rfl
            simp only [Act.put, List.setIfInBounds_toArray, List.set_cons_zero, List.set_cons_succ]
            refine wpAnyH_take (i := 4) (oi := { dst := some 116, op := Op.move (Operand.tmp 6), type := 9, pos := "law.go:100", after := #[{ on := 3, ground := Ground.guard }], guard := some (3, true) }) (v := undef) rfl (by kernel_rfl) (by kernel_rfl) (by kernel_rfl) (fun _ _ _ h => h) (Or.inr ⟨by rfl, rfl⟩) (by assumption) ?_
            simp only [Act.put, List.setIfInBounds_toArray, List.set_cons_zero, List.set_cons_succ]
            refine wpAnyH_take (i := 5) (oi := { dst := some 117, op := Op.move (Operand.tmp 0), type := 26, pos := "law.go:100", after := #[{ on := 3, ground := Ground.guard }], guard := some (3, true) }) (v := undef) rfl (by kernel_rfl) (by kernel_rfl) (by kernel_rfl) (fun _ _ _ h => h) (Or.inr ⟨by rfl, rfl⟩) (by assumption) ?_
            simp only [Act.put, List.setIfInBounds_toArray, List.set_cons_zero, List.set_cons_succ]
            refine wpAnyH_take (i := 6) (oi := { dst := some 118, op := Op.call { callee := Callee.builtin Go.Builtin.len, args := #[Operand.tmp 117], argTypes := #[26] }, type := 3, pos := "law.go:100", after := #[{ on := 5, ground := Ground.data }, { on := 3, ground := Ground.guard }], guard := some (3, true) }) (v := undef) rfl (by kernel_rfl) (by kernel_rfl) (by kernel_rfl) (fun _ _ _ h => h) (Or.inr ⟨by rfl, rfl⟩) (by assumption) ?_
            simp only [Act.put, List.setIfInBounds_toArray, List.set_cons_zero, List.set_cons_succ]
            refine wpAnyH_take (i := 7) (oi := { dst := some 119, op := Op.move (Operand.tmp 1), type := 3, pos := "law.go:100", after := #[{ on := 3, ground := Ground.guard }], guard := some (3, true) }) (v := undef) rfl (by kernel_rfl) (by kernel_rfl) (by kernel_rfl) (fun _ _ _ h => h) (Or.inr ⟨by rfl, rfl⟩) (by assumption) ?_
            simp only [Act.put, List.setIfInBounds_toArray, List.set_cons_zero, List.set_cons_succ]
            refine wpAnyH_take (i := 8) (oi := { dst := some 120, op := Op.move (Operand.tmp 0), type := 26, pos := "law.go:100", after := #[{ on := 3, ground := Ground.guard }], guard := some (3, true) }) (v := undef) rfl (by kernel_rfl) (by kernel_rfl) (by kernel_rfl) (fun _ _ _ h => h) (Or.inr ⟨by rfl, rfl⟩) (by assumption) ?_
            simp only [Act.put, List.setIfInBounds_toArray, List.set_cons_zero, List.set_cons_succ]
            refine wpAnyH_take (i := 9) (oi := { dst := some 121, op := Op.move (Operand.tmp 1), type := 3, pos := "law.go:100", after := #[{ on := 3, ground := Ground.guard }], guard := some (3, true) }) (v := undef) rfl (by kernel_rfl) (by kernel_rfl) (by kernel_rfl) (fun _ _ _ h => h) (Or.inr ⟨by rfl, rfl⟩) (by assumption) ?_
            simp only [Act.put, List.setIfInBounds_toArray, List.set_cons_zero, List.set_cons_succ]
            refine wpAnyH_take (i := 10) (oi := { dst := some 122, op := Op.indexAddr 26 (Operand.tmp 120) (Operand.tmp 121), type := 0, pos := "law.go:100", after := #[{ on := 8, ground := Ground.data }, { on := 9, ground := Ground.data }, { on := 3, ground := Ground.guard }], guard := some (3, true) }) (v := undef) rfl (by kernel_rfl) (by kernel_rfl) (by kernel_rfl) (fun _ _ _ h => h) (Or.inr ⟨by rfl, rfl⟩) (by assumption) ?_
            simp only [Act.put, List.setIfInBounds_toArray, List.set_cons_zero, List.set_cons_succ]
            refine wpAnyH_take (i := 11) (oi := { dst := some 123, op := Op.load 9 (Operand.tmp 122), type := 9, pos := "law.go:100", after := #[{ on := 10, ground := Ground.data }, { on := 3, ground := Ground.guard }], guard := some (3, true) }) (v := undef) rfl (by kernel_rfl) (by kernel_rfl) (by kernel_rfl) (fun _ _ _ h => h) (Or.inr ⟨by rfl, rfl⟩) (by assumption) ?_
            simp only [Act.put, List.setIfInBounds_toArray, List.set_cons_zero, List.set_cons_succ]
            refine wpAnyH_take (i := 12) (oi := { dst := some 124, op := Op.move (Operand.tmp 10), type := 26, pos := "law.go:100", after := #[{ on := 3, ground := Ground.guard }], guard := some (3, true) }) (v := undef) rfl (by kernel_rfl) (by kernel_rfl) (by kernel_rfl) (fun _ _ _ h => h) (Or.inr ⟨by rfl, rfl⟩) (by assumption) ?_
            simp only [Act.put, List.setIfInBounds_toArray, List.set_cons_zero, List.set_cons_succ]
            refine wpAnyH_take (i := 13) (oi := { dst := some 125, op := Op.slice 26 (Operand.tmp 124) (some (Operand.const (Value.int IntKind.i64 1))) none none, type := 26, pos := "law.go:100", after := #[{ on := 12, ground := Ground.data }, { on := 3, ground := Ground.guard }], guard := some (3, true) }) (v := undef) rfl (by kernel_rfl) (by kernel_rfl) (by kernel_rfl) (fun _ _ _ h => h) (Or.inr ⟨by rfl, rfl⟩) (by assumption) ?_
            simp only [Act.put, List.setIfInBounds_toArray, List.set_cons_zero, List.set_cons_succ]
            refine wpAnyH_take (i := 14) (oi := { dst := some 126, op := Op.call { callee := Callee.value (Operand.func 24), args := #[Operand.tmp 116, Operand.tmp 118, Operand.tmp 119, Operand.tmp 123, Operand.tmp 125], argTypes := #[9, 3, 3, 9, 26] }, type := 4, pos := "law.go:100", after := #[{ on := 4, ground := Ground.data }, { on := 6, ground := Ground.data }, { on := 7, ground := Ground.data }, { on := 11, ground := Ground.data }, { on := 13, ground := Ground.data }, { on := 3, ground := Ground.chain }, { on := 3, ground := Ground.guard }], guard := some (3, true) }) (v := undef) rfl (by kernel_rfl) (by kernel_rfl) (by kernel_rfl) (fun _ _ _ h => h) (Or.inr ⟨by rfl, rfl⟩) (by assumption) ?_
            simp only [Act.put, List.setIfInBounds_toArray, List.set_cons_zero, List.set_cons_succ]
            refine wpAnyH_take (i := 15) (oi := { dst := some 127, op := Op.pick (Operand.tmp 115) (Operand.tmp 126) (Operand.const (Value.bool false)), type := 4, pos := "law.go:100", after := #[{ on := 3, ground := Ground.data }, { on := 14, ground := Ground.data }], guard := none }) (v := ?vcs3_15) rfl (by kernel_rfl) (by kernel_rfl) (by kernel_rfl) (fun _ _ _ h => h) (Or.inl ⟨by rfl, ?ycs3_15⟩) (by assumption) ?tcs3_15
            case ycs3_15 => (intro w hSw; try dsimp only at hSw); go_simp; try with_reducible rfl
            simp only [Act.put, List.setIfInBounds_toArray, List.set_cons_zero, List.set_cons_succ]
            refine wpAnyH_take (i := 16) (oi := { dst := some 14, op := Op.assign (Operand.tmp 127), type := 4, pos := "law.go:100", after := #[{ on := 15, ground := Ground.data }, { on := 14, ground := Ground.chain }, { on := 0, ground := Ground.phase }, { on := 1, ground := Ground.phase }, { on := 2, ground := Ground.phase }, { on := 3, ground := Ground.phase }, { on := 4, ground := Ground.phase }, { on := 5, ground := Ground.phase }, { on := 6, ground := Ground.phase }, { on := 7, ground := Ground.phase }, { on := 8, ground := Ground.phase }, { on := 9, ground := Ground.phase }, { on := 10, ground := Ground.phase }, { on := 11, ground := Ground.phase }, { on := 12, ground := Ground.phase }, { on := 13, ground := Ground.phase }, { on := 14, ground := Ground.phase }, { on := 15, ground := Ground.phase }], guard := none }) (v := ?vcs3_16) rfl (by kernel_rfl) (by kernel_rfl) (by kernel_rfl) (fun _ _ _ h => h) (Or.inl ⟨by rfl, ?ycs3_16⟩) (by assumption) ?tcs3_16
            case ycs3_16 => (intro w hSw; try dsimp only at hSw); go_simp; try with_reducible rfl
            simp only [Act.put, List.setIfInBounds_toArray, List.set_cons_zero, List.set_cons_succ]
            refine wpAnyH_done (by kernel_rfl) ?_ _
            go_wp2_with fail
            go_ret
            exact ⟨rfl, below_step H5.out.1.2.2 hbd⟩
      · have HE := Lib.hid (proof_not L m a2 c2 wr hin)
        have HV := Lib.hid (fun V (h : Tab V) => verify_all (rootS Sha.shaS L) ⟨#[]⟩ L.length m [] none 0 V h ⟨Nat.le_refl _, by decide, fun i hi => absurd hi (Nat.not_lt_zero _)⟩ (by decide) (by decide) (by omega))
        have hvf : verAll (rootS Sha.shaS L) L.length m ⟨#[]⟩ [] = false := by
          unfold verAll
          rw [decide_eq_false hin, Bool.false_and]
        rw [hvf] at HV
        generalize rootS Sha.shaS L = r2 at *
        clear hvf
        by_cases hi1 : 0 ≤ m
        · have hi3 : decide (m < (L.length : Int)) = false := decide_eq_false (fun h => hin ⟨hi1, h⟩)
          clear hin
          go_wp2_with fail
          refine HE.out.mono ?_
          rintro e V5 ⟨a5, c5, rfl, hA5, hb5⟩
          have H5 := Lib.hid (H4.out.step hb5)
          clear hb5 hA5 H4 HE
          go_wp2_with fail
          refine (HV.out _ H5.out.1).mono ?_
          rintro e V8 ⟨rfl, hb8⟩
          have H8 := Lib.hid (H5.out.step hb8)
          clear hb8 H5
          go_wp2_with fail
          go_ret
          exact ⟨rfl, H8.out.2.2⟩
        · clear hin
          go_wp2_with fail
          refine HE.out.mono ?_
          rintro e V5 ⟨a5, c5, rfl, hA5, hb5⟩
          have H5 := Lib.hid (H4.out.step hb5)
          clear hb5 hA5 H4 HE
          go_wp2_with fail
          refine (HV.out _ H5.out.1).mono ?_
          rintro e V8 ⟨rfl, hb8⟩
          have H8 := Lib.hid (H5.out.step hb8)
          clear hb8 H5
          go_wp2_with fail
          go_ret
          exact ⟨rfl, H8.out.2.2⟩
end Go.Proofs.YtbaggjhjkignkaaDoor
