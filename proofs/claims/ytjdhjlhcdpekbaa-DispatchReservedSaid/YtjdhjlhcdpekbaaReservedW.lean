/-
  The walk of DispatchReserved.
-/
import Derived.Test.YtjdhjlhcdpekbaaIns
namespace Go.Proofs.Ytjdhjlhcdpekbaa
open Go.RowKit Go.Shelf Go.Sort Dsp

theorem JbA.ch {S : Nat → Prop} {w w' : World} {a : Option Addr} {c : Nat} {l : List Jb} (h : JbA w a c l) (hc : Ch S w w') (hS : ∀ x, a = some x → ¬ S x.block) : JbA w' a c l := by
  refine ⟨h.1, h.2.1, fun i hi => ?_⟩
  obtain ⟨b, off, rfl, h1, h2⟩ := h.2.2 i hi
  have hb := hS _ rfl
  exact ⟨b, off, rfl, Nat.lt_of_lt_of_le h1 hc.size, cell_ch hc h2.1 hb, cell_ch hc h2.2.1 hb, cell_ch hc h2.2.2.1 hb, cell_ch hc h2.2.2.2.1 hb, cell_ch hc h2.2.2.2.2.1 hb, cell_ch hc h2.2.2.2.2.2.1 hb, cell_ch hc h2.2.2.2.2.2.2 hb⟩

set_option maxRecDepth 100000 in
set_option maxHeartbeats 16000000 in
theorem reservedLaw_any (a0 : Option Addr) (c0 : Nat) (B : List (List Int)) (a1 : Option Addr) (c1 : Nat) (X : List (List Int)) (n : Int) (a2 : Option Addr) (c2 : Nat) (Y : List (List Int)) (W : World) (hB : ArrsA 4 W a0 c0 B) (hX : ArrsA 4 W a1 c1 X)
    (n1 : -9223372036854775808 ≤ n) (n2 : n ≤ 9223372036854775807) (hY : ArrsA 2 W a2 c2 Y) :
    Calls Try.prog 4 #[.slice a0 B.length c0, .slice a1 X.length c1, .int .i64 n, .slice a2 Y.length c2] W fun e w' => e = .returned (.bool true) ∧ Below W.heap.size W w' := by
  have HB := Lib.hid hB; have HX := Lib.hid hX; have HY := Lib.hid hY
  have HS := Lib.hid (sane_any W)
  have HR := Lib.hid (fun w => rules_any n w ⟨n1, n2⟩)
  unfold NewInts at HR
  have hyl := Nat.le_trans hY.1 hY.2.1
  unfold maxLen at hyl
  clear hB hX hY n1 n2
  go_enter Try.func4, Try.ntmps4
  go_wp2_with fail
  refine HS.out.mono ?_
  rintro _ w1 ⟨rfl, b1⟩
  have HBk := Lib.hid (booked11_any B a0 c0 w1 (HB.out.below b1))
  have B1 := Lib.hid b1
  clear b1 HS
  go_wp2_with fail
  refine HBk.out.mono ?_
  rintro _ w2 ⟨C, rfl, k2⟩
  have K2 := Lib.hid k2
  have HOk := Lib.hid (bkK_ok B)
  have hcn : (Kal.all (bkK B)).length ≤ 40 := by
    have h1 := all_le (bkL B) (bkL B).length (Nat.le_refl _)
    rw [List.take_length] at h1
    have h2 : (bkL B).length ≤ 40 := someL_len _
    unfold bkK; omega
  generalize bkK B = K at *
  have B2 := Lib.hid (below_step B1.out k2.bel)
  have HJ := Lib.hid (jobs_any X a1 c1 w2 (HX.out.below B2.out))
  unfold NewJobs at HJ
  clear k2 HBk
  obtain ⟨cn, hcn2⟩ : ∃ cn, (Kal.all K).length = cn := ⟨_, rfl⟩
  rw [hcn2] at hcn
  have HCn := Lib.hid hcn2
  rw [hcn2]
  clear hcn2
  go_wp2_with fail
  refine HJ.out.mono ?_
  rintro _ w3 ⟨v3, rfl, o3, b3⟩
  have HV3 := Lib.hid (show ∀ k, v3.ownBlock = some k → w2.heap.size ≤ k ∧ k < w3.heap.size from fun k hk => o3.lt k hk)
  obtain ⟨a3, c3, rfl, j3, hab⟩ := o3.arg
  have J3 := Lib.hid j3
  have HA3 := Lib.hid (show ∀ x, a3 = some x → w2.heap.size ≤ x.block ∧ x.block < w3.heap.size from fun x hx => HV3.out _ (hab x hx))
  have C3 := Lib.hid ((K2.out.off b3).sub (S' := fun k => w2.heap.size ≤ k ∧ k < w3.heap.size) (fun k hk => hk.1))
  have hlj := jobsL_len X
  have HBd := Lib.hid (fun (j : Jb) (h : j ∈ jobsL X) => job_bd h)
  have HLb := Lib.hid (fun (r : Int) (j : Jb) (h : j ∈ jobsL X) => lenP_bd h r)
  have HFn := Lib.hid (fun (K : Kal.Kal) (t f r : Int) (j : Jb) (h : j ∈ jobsL X) => fits_now (K := K) (t := t) (f := f) (r := r) h)
  generalize jobsL X = J at *
  clear o3 b3 j3 HJ K2 HV3 hab
  go_wp2_with fail
  go_loopw [11, 13, 14] (fun nn rr ii wr => ∃ (i m : Nat) (r : Int) (K : Kal.Kal), i ≤ Y.length ∧ i ≤ 20 ∧ m ≤ 40 + i ∧ ii = .int .i64 (i : Int) ∧ rr = .int .i64 r ∧ nn = .int .i64 (m : Int) ∧ Hid ((Kal.all K).length = m) ∧ Hid (Kal.Ok K) ∧ Hid (CalOff C K w1 (fun k => w2.heap.size ≤ k ∧ k < w3.heap.size) wr) ∧ Hid (JbA wr a3 c3 J) ∧ Hid (w3.heap.size ≤ wr.heap.size)) (fun _ _ ii _ => 20 - (intOf ii).toNat)
  case atStart => exact ⟨0, cn, 0, K, Nat.zero_le _, by omega, by omega, rfl, rfl, rfl, HCn, HOk, C3, J3, Lib.hid (Nat.le_refl _)⟩
  case round =>
    clear hcn HCn HOk C3 J3 K
    obtain ⟨i, m, r, K, hi, hi20, hm, rfl, rfl, rfl, HM, HOk, HC, HJ, HZ⟩ := hrel
    by_cases hlt : i < Y.length ∧ i < 20
    · obtain ⟨hlt, hlt20⟩ := hlt
      have BWr := Lib.hid (below_step B1.out HC.out.is.bel)
      obtain ⟨b, off, rfl, hb1, hc0⟩ := HY.out.2.2.2 i hlt
      have hc : ∀ (j : Nat) (v : Int), Y[i][j]? = some v → wr.cell? ⟨b, off + i * 2 + j, none⟩ = some (.int .i64 v) := fun j v hv => (BWr.out.cell (p := ⟨b, off + i * 2 + j, none⟩) hb1).trans (hc0 j v hv)
      clear hc0
      obtain ⟨hlen, hfit⟩ := (HY.out).2.2.1 Y[i] (List.getElem_mem hlt)
      generalize Y[i] = y at *
      match y, hlen with
      | [y0, y1], _ =>
        have x0 := hc 0 y0 rfl; have x1 := hc 1 y1 rfl
        have HP1 := Lib.hid (fun w => pick_any y0 5 w (hfit y0 (by simp)) (by omega))
        have HP2 := Lib.hid (fun w => pick_any y1 200 w (hfit y1 (by simp)) (by omega))
        have q1 := pickZ_bd (c := y0) (n := 5) (by omega)
        have q2 := pickZ_bd (c := y1) (n := 200) (by omega)
        obtain ⟨t, ht⟩ : ∃ t : Nat, pickZ y0 5 = (t : Int) := ⟨(pickZ y0 5).toNat, by omega⟩
        rw [ht] at HP1 q1
        generalize pickZ y1 200 = s at *
        have ht5 : t < 5 := by omega
        have k0 : (0 : Int) ≤ (i : Int) := by omega
        have k1 : (i : Int) < (Y.length : Int) := by omega
        have k2 : (i : Int) < 20 := by omega
        simp only [Nat.add_zero] at x0
        clear hc hfit ht
        go_wp2_with fail
        refine (HP1.out _).mono ?_
        rintro _ _ ⟨rfl, rfl⟩
        go_wp2_with fail
        refine (HP2.out _).mono ?_
        rintro _ _ ⟨rfl, rfl⟩
        have HLs := Lib.hid (list_is (t : Int) HC.out.is)
        have hit : Kal.isTool (t : Int) = true := by unfold Kal.isTool; simp; omega
        rw [if_pos hit, Int.toNat_natCast] at HLs
        clear hit x0 x1
        unfold NewRow at HLs
        go_wp2_with fail
        refine HLs.out.mono ?_
        rintro _ w5 ⟨v5, rfl, o5, b5⟩
        have O5 := Lib.hid o5
        have B5 := Lib.hid b5
        obtain ⟨a5, c5, rfl, -, -⟩ := o5.arg
        clear o5 b5 HLs
        go_wp2_with fail
        refine (HR.out _).mono ?_
        rintro _ w6 ⟨v6, rfl, o6, b6⟩
        obtain ⟨a6, c6, rfl, r6⟩ := o6.arg
        have R6 := Lib.hid r6
        have B6 := Lib.hid (below_step B5.out b6)
        have O6 := Lib.hid (own_below O5.out b6)
        have HPk := Lib.hid (Pick_any (HC.out.is.below B6.out) (t : Int) s _ _ _ r _ _ _ (by unfold Fits; omega) R6.out (rules_1000 n) (by omega) (HJ.out.below B6.out))
        have HPS := Lib.hid (fun j => pick_some (K := K) (t := (t : Int)) (f := s) (r := r) (J := J) (j := j) (rulesL_valid n))
        clear o6 r6 b6 O5
        generalize pickP K (t : Int) s r (orderV (rulesL n) r J) = o at *
        unfold pickV at HPk
        go_wp2_with fail
        refine HPk.out.mono ?_
        rintro _ w7 ⟨rfl, b7⟩
        have B7 := Lib.hid (below_step B6.out b7)
        have O7 := Lib.hid (own_below O6.out b7)
        clear b7 HPk O6
        rcases o with _ | j
        · simp only [Option.getD_none, Option.isSome_none]
          have b8 := Lib.hid (below_step B7.out (below_new w7 (.cells #[.int .i64 0, .int .i64 0, .bool false, .int .i64 0, .int .i64 0, .int .i64 0, .int .i64 0] 43)))
          go_wp2_with fail
          go_roundw
          case rel => exact ⟨i + 1, m, r, K, hlt, by omega, by omega, by go_num, rfl, rfl, HM, HOk, Lib.hid (HC.out.below b8.out), Lib.hid (HJ.out.below b8.out), Lib.hid (Nat.le_trans HZ.out b8.out.size)⟩
          case measure => simp [intOf]; omega
        · obtain ⟨hpm, hpf, -⟩ := HPS.out j rfl
          have hL := HLb.out r j hpm
          have hD := HBd.out j hpm
          rw [HFn.out _ _ _ _ j hpm] at hpf
          have hff := of_decide_eq_true hpf
          have HLn := Lib.hid (fun w => Length_any r j w (by omega))
          clear hpm hpf HPS
          generalize hm0 : lenP r j = l0 at *
          clear hm0
          obtain ⟨-, f2⟩ := first_now HOk.out (t := t) (by omega) (f := s) (n := l0) hL.1 (by omega) (by omega)
          have HFr := Lib.hid (f2 hff (100 + j.lot) (by omega) (by omega))
          clear f2 hff
          simp only [Option.getD_some, Option.isSome_some]
          obtain ⟨j0, j1, j2, j3, j4, j5, j6⟩ := j
          simp only at hD HFr
          have d1 : IntKind.i64.wrap (s + l0) = s + l0 := IntWalk.i64_in _ (by omega)
          have d2 : IntKind.i64.wrap (100 + j0) = 100 + j0 := IntWalk.i64_in _ (by omega)
          have B8 := Lib.hid (below_step B7.out (below_new w7 (.cells #[.int .i64 j0, .int .i64 j1, .bool j2, .int .i64 j3, .int .i64 j4, .int .i64 j5, .int .i64 j6] 43)))
          have JP := Lib.hid (show JbC (w7.alloc (.cells #[.int .i64 j0, .int .i64 j1, .bool j2, .int .i64 j3, .int .i64 j4, .int .i64 j5, .int .i64 j6] 43)) w7.heap.size 0 ⟨j0, j1, j2, j3, j4, j5, j6⟩ by unfold JbC; go_simp)
          have O8 := Lib.hid (own_below O7.out (below_new w7 (.cells #[.int .i64 j0, .int .i64 j1, .bool j2, .int .i64 j3, .int .i64 j4, .int .i64 j5, .int .i64 j6] 43)))
          go_wp2_with fail
          generalize w7.alloc (.cells #[.int .i64 j0, .int .i64 j1, .bool j2, .int .i64 j3, .int .i64 j4, .int .i64 j5, .int .i64 j6] 43) = w8 at *
          obtain ⟨z0, z1, z2, z3, z4, z5, z6⟩ := JP.out
          simp only [Nat.zero_add] at z0 z1 z2 z3 z4 z5 z6
          have BD := Lib.hid (show Below w8.heap.size w8 w8.drew from ⟨rfl, rfl, rfl, Nat.le_refl _, fun _ _ => rfl⟩)
          refine wp_region_held_drew (S := (fun v => Below w8.heap.size w8 v)) (by kernel_rfl) (BD.out) (fun hHeld => ?_)
          refine wpAnyH_take (i := 0) (oi := { dst := some 70, op := Op.move (Operand.tmp 15), type := 3, pos := "law.go:154", after := #[], guard := none }) (v := ?vc1_0) rfl (by kernel_rfl) (by kernel_rfl) (by kernel_rfl) (fun _ _ _ h => h) (Or.inl ⟨by rfl, ?yc1_0⟩) (by assumption) ?tc1_0
          case yc1_0 => (intro w hSw; try dsimp only at hSw); go_simp; try with_reducible rfl
          simp only [Act.put, List.setIfInBounds_toArray, List.set_cons_zero, List.set_cons_succ]
          refine wpAnyH_take (i := 1) (oi := { dst := some 71, op := Op.move (Operand.tmp 16), type := 3, pos := "law.go:154", after := #[], guard := none }) (v := ?vc2_1) rfl (by kernel_rfl) (by kernel_rfl) (by kernel_rfl) (fun _ _ _ h => h) (Or.inl ⟨by rfl, ?yc2_1⟩) (by assumption) ?tc2_1
          case yc2_1 => (intro w hSw; try dsimp only at hSw); go_simp; try with_reducible rfl
          simp only [Act.put, List.setIfInBounds_toArray, List.set_cons_zero, List.set_cons_succ]
          refine wpAnyH_take (i := 2) (oi := { dst := some 72, op := Op.move (Operand.tmp 16), type := 3, pos := "law.go:154", after := #[], guard := none }) (v := ?vc3_2) rfl (by kernel_rfl) (by kernel_rfl) (by kernel_rfl) (fun _ _ _ h => h) (Or.inl ⟨by rfl, ?yc3_2⟩) (by assumption) ?tc3_2
          case yc3_2 => (intro w hSw; try dsimp only at hSw); go_simp; try with_reducible rfl
          simp only [Act.put, List.setIfInBounds_toArray, List.set_cons_zero, List.set_cons_succ]
          refine wpAnyH_take (i := 3) (oi := { dst := some 73, op := Op.move (Operand.tmp 13), type := 3, pos := "law.go:154", after := #[], guard := none }) (v := ?vc4_3) rfl (by kernel_rfl) (by kernel_rfl) (by kernel_rfl) (fun _ _ _ h => h) (Or.inl ⟨by rfl, ?yc4_3⟩) (by assumption) ?tc4_3
          case yc4_3 => (intro w hSw; try dsimp only at hSw); go_simp; try with_reducible rfl
          simp only [Act.put, List.setIfInBounds_toArray, List.set_cons_zero, List.set_cons_succ]
          refine wpAnyH_take (i := 4) (oi := { dst := some 74, op := Op.load 43 (Operand.tmp 18), type := 43, pos := "law.go:154", after := #[], guard := none }) (v := ?vc5_4) rfl (by kernel_rfl) (by kernel_rfl) (by kernel_rfl) (fun _ _ _ h => h) (Or.inl ⟨by rfl, ?yc5_4⟩) (by assumption) ?tc5_4
          case yc5_4 => (intro w hSw; have h0 := cell_below hSw z0; have h1 := cell_below hSw z1; have h2 := cell_below hSw z2; have h3 := cell_below hSw z3; have h4 := cell_below hSw z4; have h5 := cell_below hSw z5; have h6 := cell_below hSw z6); go_simp; try with_reducible rfl
          simp only [Act.put, List.setIfInBounds_toArray, List.set_cons_zero, List.set_cons_succ]
          refine wpAnyH_take (i := 7) (oi := { dst := some 77, op := Op.fieldAddr 43 (Operand.tmp 18) 0, type := 0, pos := "law.go:154", after := #[], guard := none }) (v := ?vc6_7) rfl (by kernel_rfl) (by kernel_rfl) (by kernel_rfl) (fun _ _ _ h => h) (Or.inl ⟨by rfl, ?yc6_7⟩) (by assumption) ?tc6_7
          case yc6_7 => (intro w hSw; try dsimp only at hSw); go_simp; try with_reducible rfl
          simp only [Act.put, List.setIfInBounds_toArray, List.set_cons_zero, List.set_cons_succ]
          refine wpAnyH_take (i := 8) (oi := { dst := some 78, op := Op.load 3 (Operand.tmp 77), type := 3, pos := "law.go:154", after := #[{ on := 7, ground := Ground.data }], guard := none }) (v := ?vc7_8) rfl (by kernel_rfl) (by kernel_rfl) (by kernel_rfl) (fun _ _ _ h => h) (Or.inl ⟨by rfl, ?yc7_8⟩) (by assumption) ?tc7_8
          case yc7_8 => (intro w hSw; have h0 := cell_below hSw z0); go_simp; try with_reducible rfl
          simp only [Act.put, List.setIfInBounds_toArray, List.set_cons_zero, List.set_cons_succ]
          refine wpAnyH_take (i := 9) (oi := { dst := some 79, op := Op.binOp BinOp.add 3 (Operand.const (Value.int IntKind.i64 100)) (Operand.tmp 78) 3, type := 3, pos := "law.go:154", after := #[{ on := 8, ground := Ground.data }], guard := none }) (v := ?vc8_9) rfl (by kernel_rfl) (by kernel_rfl) (by kernel_rfl) (fun _ _ _ h => h) (Or.inl ⟨by rfl, ?yc8_9⟩) (by assumption) ?tc8_9
          case yc8_9 => (intro w hSw; try dsimp only at hSw); go_simp; try with_reducible rfl
          simp only [Act.put, List.setIfInBounds_toArray, List.set_cons_zero, List.set_cons_succ]
          refine wpAnyH_ready (rs := [5, 11]) (by kernel_rfl) (by simp) ?_
          refine AllReadyH.cons (o := { dst := some 75, op := Op.call { callee := Callee.value (Operand.func 29), args := #[Operand.tmp 73, Operand.tmp 74], argTypes := #[3, 43] }, type := 3, pos := "law.go:154", after := #[{ on := 3, ground := Ground.data }, { on := 4, ground := Ground.data }], guard := none }) rfl (fun K hK => ?_) ?_
          · go_simp
            refine (HLn.out _).mono ?_; rintro e wz ⟨rfl, gz⟩
            have hSz := below_step hHeld gz
            clear gz
            refine hK.out _ _ (hSz) (fun hHeld' => ?_)
            clear hK K hHeld
            have hHeld := hHeld'; clear hHeld'
            try simp only [Act.put, List.setIfInBounds_toArray, List.set_cons_zero, List.set_cons_succ]
            refine wpAnyH_take (i := 6) (oi := { dst := some 76, op := Op.binOp BinOp.add 3 (Operand.tmp 72) (Operand.tmp 75) 3, type := 3, pos := "law.go:154", after := #[{ on := 2, ground := Ground.data }, { on := 5, ground := Ground.data }], guard := none }) (v := ?vc9_6) rfl (by kernel_rfl) (by kernel_rfl) (by kernel_rfl) (fun _ _ _ h => h) (Or.inl ⟨by rfl, ?yc9_6⟩) (by assumption) ?tc9_6
            case yc9_6 => (intro w hSw; try dsimp only at hSw); go_simp; try with_reducible rfl
            simp only [Act.put, List.setIfInBounds_toArray, List.set_cons_zero, List.set_cons_succ]
            refine wpAnyH_take (i := 10) (oi := { dst := some 80, op := Op.build 36 #[(0, Operand.tmp 70), (1, Operand.tmp 71), (2, Operand.tmp 76), (3, Operand.tmp 79)], type := 36, pos := "law.go:154", after := #[{ on := 0, ground := Ground.data }, { on := 1, ground := Ground.data }, { on := 6, ground := Ground.data }, { on := 9, ground := Ground.data }], guard := none }) (v := ?vc10_10) rfl (by kernel_rfl) (by kernel_rfl) (by kernel_rfl) (fun _ _ _ h => h) (Or.inl ⟨by rfl, ?yc10_10⟩) (by assumption) ?tc10_10
            case yc10_10 => (intro w hSw; try dsimp only at hSw); go_simp; try with_reducible rfl
            simp only [Act.put, List.setIfInBounds_toArray, List.set_cons_zero, List.set_cons_succ]
            refine wpAnyH_ready (rs := [11]) (by kernel_rfl) (by simp) ?_
            refine AllReadyH.cons (o := { dst := some 20, op := Op.alloc 36, type := 0, pos := "law.go:154", after := #[], guard := none }) rfl (fun K hK => ?_) AllReadyH.nil
            go_simp
            have hSz := below_step hHeld (below_new wz (.cells #[.int .i64 0, .int .i64 0, .int .i64 0, .int .i64 0] 36))
            have ZB := heap_alloc_new wz (.cells #[.int .i64 0, .int .i64 0, .int .i64 0, .int .i64 0] 36)
            have hT := hHeld.size
            refine hK.out _ _ (hSz) (fun hHeld' => ?_)
            clear hK K hHeld
            have hHeld := hHeld'; clear hHeld'
            try simp only [Act.put, List.setIfInBounds_toArray, List.set_cons_zero, List.set_cons_succ]
            generalize wz.alloc (.cells #[.int .i64 0, .int .i64 0, .int .i64 0, .int .i64 0] 36) = wa at *
            generalize wz.heap.size = T at *
            refine wpAnyH_ready (rs := [12]) (by kernel_rfl) (by simp) ?_
            refine AllReadyH.cons (o := { dst := none, op := Op.store 36 (Operand.tmp 20) (Operand.tmp 80), type := 0, pos := "law.go:154", after := #[{ on := 11, ground := Ground.data }, { on := 10, ground := Ground.data }, { on := 5, ground := Ground.chain }, { on := 0, ground := Ground.phase }, { on := 1, ground := Ground.phase }, { on := 2, ground := Ground.phase }, { on := 3, ground := Ground.phase }, { on := 4, ground := Ground.phase }, { on := 5, ground := Ground.phase }, { on := 6, ground := Ground.phase }, { on := 7, ground := Ground.phase }, { on := 8, ground := Ground.phase }, { on := 9, ground := Ground.phase }, { on := 10, ground := Ground.phase }, { on := 11, ground := Ground.phase }], guard := none }) rfl (fun K hK => ?_) AllReadyH.nil
            have e0 := box_cell ZB 0 _ rfl; have e1 := box_cell ZB 1 _ rfl; have e2 := box_cell ZB 2 _ rfl; have e3 := box_cell ZB 3 _ rfl
            have f0 := box_fz ZB 0; have f1 := box_fz ZB 1; have f2 := box_fz ZB 2; have f3 := box_fz ZB 3
            go_simp
            have hSz : Below w8.heap.size w8 ((((wa.setCell ⟨T, 0, none⟩ (.int .i64 (t : Int))).setCell ⟨T, 1, none⟩ (.int .i64 s)).setCell ⟨T, 2, none⟩ (.int .i64 (s + l0))).setCell ⟨T, 3, none⟩ (.int .i64 (100 + j0))) := ((((show Below w8.heap.size w8 wa from hHeld).setCell hT _).setCell hT _).setCell hT _).setCell hT _
            have ZF : ((((wa.setCell ⟨T, 0, none⟩ (.int .i64 (t : Int))).setCell ⟨T, 1, none⟩ (.int .i64 s)).setCell ⟨T, 2, none⟩ (.int .i64 (s + l0))).setCell ⟨T, 3, none⟩ (.int .i64 (100 + j0))).heap[T]? = some (.cells #[.int .i64 (t : Int), .int .i64 s, .int .i64 (s + l0), .int .i64 (100 + j0)] 36) := block_set (block_set (block_set (block_set ZB _) _) _) _
            clear e0 e1 e2 e3 f0 f1 f2 f3
            refine hK.out _ _ (hSz) (fun hHeld' => ?_)
            clear hK K hHeld
            have hHeld := hHeld'; clear hHeld'
            try simp only [Act.put, List.setIfInBounds_toArray, List.set_cons_zero, List.set_cons_succ]
            generalize (((wa.setCell ⟨T, 0, none⟩ (.int .i64 (t : Int))).setCell ⟨T, 1, none⟩ (.int .i64 s)).setCell ⟨T, 2, none⟩ (.int .i64 (s + l0))).setCell ⟨T, 3, none⟩ (.int .i64 (100 + j0)) = w9 at *
            refine wpAnyH_done (by kernel_rfl) ?_ _
            have BX := Lib.hid (below_step B8.out hHeld)
            have HT := Lib.hid (show wr.heap.size ≤ T from Nat.le_trans B8.out.size hT)
            have O9 := Lib.hid (own_below O8.out hHeld)
            have JR := Lib.hid (cell_below hHeld z1)
            have HB7 := Lib.hid (show wr.heap.size ≤ w7.heap.size from B7.out.size)
            have HC9 := Lib.hid (HC.out.more BX.out)
            have HBo := Lib.hid (book_off ⟨(t : Int), s, s + l0, 100 + j0⟩ HC9.out)
            have c0 := box_cell ZF 0 _ rfl; have c1 := box_cell ZF 1 _ rfl; have c2 := box_cell ZF 2 _ rfl; have c3 := box_cell ZF 3 _ rfl
            have ZH := Lib.hid ZF
            have JJ9 := Lib.hid (HJ.out.below BX.out)
            have HIn := Lib.hid (ins_ok HOk.out (t := t) (by omega) (b := ⟨(t : Int), s, s + l0, 100 + j0⟩) rfl HFr.out)
            have HLen := Lib.hid (len_book K ⟨(t : Int), s, s + l0, 100 + j0⟩)
            rw [HFr.out] at HLen HBo
            simp only [if_true] at HLen HBo
            have HOk2 := Lib.hid (HOk.out.book ⟨(t : Int), s, s + l0, 100 + j0⟩)
            have hKl := HOk.out.len (i := t) (by omega)
            have d3 : IntKind.i64.wrap ((m : Int) + 1) = (m : Int) + 1 := IntWalk.i64_in _ (by omega)
            clear hHeld ZF z0 z1 z2 z3 z4 z5 z6 BD
            go_wp2_with fail
            refine HBo.out.mono ?_
            rintro _ w10 ⟨rfl, hoff, hch⟩
            have O10 := Lib.hid (own_ch O9.out hch (fun kk hkk h => h.1 (.inr (O9.out.lt kk hkk).1)))
            have JR10 := Lib.hid (cell_ch hch JR.out (fun h => h.1 (.inr HB7.out)))
            have ZH10 := Lib.hid ((hch.block T (lt_of_block ZH.out) (fun h => h.1 (.inr HT.out))).trans ZH.out)
            have JJ10 := Lib.hid (JJ9.out.ch hch (fun x hx h => h.1 (.inl (HA3.out x hx))))
            have HC10 := Lib.hid (hoff.sub (S' := fun k => w2.heap.size ≤ k ∧ k < w3.heap.size) (fun k hk => ⟨.inl hk, Nat.lt_of_lt_of_le (Nat.lt_of_lt_of_le hk.2 HZ.out) BX.out.size⟩))
            have HZ10 := Lib.hid (Nat.le_trans HZ.out (Nat.le_trans BX.out.size hch.size))
            clear hoff hch HBo O9 JR ZH JJ9 c0 c1 c2 c3
            have HLs2 := Lib.hid (list_is (t : Int) HC10.out.is)
            rw [if_pos (show Kal.isTool (t : Int) = true by unfold Kal.isTool; simp; omega), Int.toNat_natCast] at HLs2
            unfold NewRow at HLs2
            generalize hKn : Kal.book K ⟨(t : Int), s, s + l0, 100 + j0⟩ = Kn at *
            clear hKn
            generalize hL : K t = L at *
            generalize hA : Kn t = A at *
            generalize hp : Kal.fb L s = p at *
            clear hL hA hp
            go_wp2_with fail
            refine HLs2.out.mono ?_
            rintro _ w11 ⟨v11, rfl, o11, b11⟩
            obtain ⟨a11, c11, rfl, r11, -⟩ := o11.arg
            have R11 := Lib.hid r11
            obtain ⟨a5', c5', ev, r5, -⟩ := BkOwn.arg (own_below O10.out b11)
            injection ev with ev1 ev2 ev3; subst ev1; subst ev3
            have R5 := Lib.hid r5
            have B11 := Lib.hid b11
            have ZH11 := Lib.hid ((b11.block T (lt_of_block ZH10.out)).trans ZH10.out)
            have HAl := Lib.hid HIn.out.len
            have hpl := HIn.out.le
            have hAle : A.length ≤ 1000001 := by have := HAl.out; omega
            clear o11 r11 r5 b11 HLs2 O10
            go_wp2_with fail
            go_loopw [22, 23] (fun kk qq wv => ∃ q : Nat, q ≤ A.length ∧ qq = .int .i64 (q : Int) ∧ kk = .int .i64 (oldAt p q : Int) ∧ Hid (Below w11.heap.size w11 wv)) (fun _ qq _ => A.length - (intOf qq).toNat)
            case atStart => exact ⟨0, Nat.zero_le _, rfl, by simp [oldAt], Lib.hid (Below.refl _ _)⟩
            case round =>
              obtain ⟨q, hq, rfl, rfl, HW⟩ := hrel
              by_cases hqA : q < A.length
              · obtain ⟨ab, ao, rfl, hab, hac⟩ := (R11.out.below HW.out).at (by omega)
                obtain ⟨u0, u1, u2, u3⟩ := hac q hqA
                clear hac
                have k3 : (0 : Int) ≤ (q : Int) := by omega
                have k4 : (q : Int) < (A.length : Int) := by omega
                have ZW := (HW.out.block T (lt_of_block ZH11.out)).trans ZH11.out
                have g0 := box_cell ZW 0 _ rfl; have g1 := box_cell ZW 1 _ rfl; have g2 := box_cell ZW 2 _ rfl; have g3 := box_cell ZW 3 _ rfl
                clear ZW
                have HASC := Lib.hid (fun (q' : Nat) (e : q = q' + 1) => show ∃ h : q' < A.length, ¬ A[q].s < A[q'].e from by
                  subst e; exact ⟨by omega, by have := HIn.out.asc q' (by omega) hqA; omega⟩)
                have ko : oldAt p q ≤ L.length := by unfold oldAt; have := HAl.out; split <;> omega
                have HQ := Lib.hid (fun (e : q = p) => show A[q].tool = (t : Int) ∧ A[q].s = s ∧ A[q].e = s + l0 ∧ A[q].o = 100 + j0 from by
                  have : ∀ (x : Nat) (hx : x < A.length), x = p → A[x] = ⟨(t : Int), s, s + l0, 100 + j0⟩ := fun x hx e => by subst e; exact HIn.out.here hx
                  rw [this q hqA e]; exact ⟨rfl, rfl, rfl, rfl⟩)
                have HNE := Lib.hid (fun (e : ¬ q = p) => show A[q].tool = (t : Int) ∧ A[q].s ≠ s from HIn.out.ne q hqA e)
                have HOLD := Lib.hid (fun (e : ¬ q = p) (kl : oldAt p q < L.length) => show L[oldAt p q] = A[q] from (HIn.out.old q (oldAt p q) hqA kl e rfl).symm)
                generalize hx : A[q] = x at *
                clear hx
                obtain ⟨xt, xs, xe, xo⟩ := x
                simp only at u0 u1 u2 u3 HASC HQ HNE HOLD
                by_cases hq0 : q = 0
                · have z1 : ¬ 0 < q := by omega
                  have z2 : decide (0 < q) = false := by simp; omega
                  have z3 : decide ((0 : Int) < (q : Int)) = false := by simp; omega
                  have z4 : ¬ (0 : Int) < (q : Int) := by omega
                  clear hq0 HASC
                  go_wp2_with fail
                  go_quiet (fail)
                  by_cases hqp : q = p
                  · have HK2 := Lib.hid (show (oldAt p q : Int) = (oldAt p (q + 1) : Int) by unfold oldAt; rw [if_pos (by omega), if_neg (by omega)]; omega)
                    obtain ⟨v0, v1, v2, v3⟩ := HQ.out hqp
                    have y0 : (xt == (t : Int)) = true := by simp [v0]
                    have y1 : (xs == s) = true := by simp [v1]
                    have y2 : (xe == s + l0) = true := by simp [v2]
                    have y3 : (xo == 100 + j0) = true := by simp [v3]
                    clear hqp v0 v1 v2 v3 HQ HNE HOLD
                    go_wp2_with fail
                    go_quiet (fail)
                    go_wp2_with fail
                    go_roundw
                    case rel => exact ⟨q + 1, hqA, by go_num, by rw [HK2.out], Lib.hid (below_drewN HW.out _)⟩
                    case measure => simp [intOf]; omega
                  · obtain ⟨n0, n1⟩ := HNE.out hqp
                    have kl : oldAt p q < L.length := by unfold oldAt; have := HAl.out; split <;> omega
                    have e9 := HOLD.out hqp kl
                    obtain ⟨lb, lo, rfl, hlb, hlc⟩ := ((R5.out.below HW.out)).at (by omega)
                    obtain ⟨y0, y1, y2, y3⟩ := hlc (oldAt p q) kl
                    rw [e9] at y0 y1 y2 y3
                    simp only at y0 y1 y2 y3
                    have HK2 := Lib.hid (show (oldAt p q : Int) + 1 = (oldAt p (q + 1) : Int) from oldAt_succ hqp)
                    have m0 : (0 : Int) ≤ (oldAt p q : Int) := by omega
                    have m1 : (oldAt p q : Int) < (L.length : Int) := by omega
                    have m2 : ¬ (L.length : Int) ≤ (oldAt p q : Int) := by omega
                    have m3 : decide ((L.length : Int) ≤ (oldAt p q : Int)) = false := by simp; omega
                    have m4 : IntKind.i64.wrap ((oldAt p q : Int) + 1) = (oldAt p q : Int) + 1 := IntWalk.i64_in _ (by omega)
                    clear hlc e9 HQ HNE HOLD hqp
                    generalize oldAt p q = ok at *
                    subst n0
                    have nb : (xs == s) = false := by simp [n1]
                    go_wp2_with fail
                    go_quiet (fail)
                    go_wp2_with fail
                    go_quiet (fail)
                    go_wp2_with fail
                    go_roundw
                    case rel => exact ⟨q + 1, hqA, by go_num, by rw [← HK2.out], Lib.hid (below_drewN HW.out _)⟩
                    case measure => simp [intOf]; omega
                · obtain ⟨q', hq'⟩ : ∃ q', q = q' + 1 := ⟨q - 1, by omega⟩
                  obtain ⟨hq2, hns⟩ := HASC.out q' hq'
                  obtain ⟨ab2, ao2, e2b, -, hac⟩ := (R11.out.below HW.out).at (by omega)
                  injection e2b with ee1
                  injection ee1 with ee2 ee3
                  subst ee2; subst ee3
                  obtain ⟨-, -, e2, -⟩ := hac q' hq2
                  clear hac
                  have z1 : 0 < q := by omega
                  have z2 : decide (0 < q) = true := by simp; omega
                  have z3 : decide ((0 : Int) < (q : Int)) = true := by simp; omega
                  have z4 : (0 : Int) < (q : Int) := by omega
                  have z5 : IntKind.i64.wrap ((q : Int) - 1) = (q' : Int) := by rw [IntWalk.i64_in _ (by omega)]; omega
                  have z6 : (0 : Int) ≤ (q' : Int) := by omega
                  have z7 : (q' : Int) < (A.length : Int) := by omega
                  have z9 : ¬ xs < A[q'].e := hns
                  generalize A[q'].e = ee at *
                  have z8 : decide (xs < ee) = false := by simp; omega
                  clear hq0 hq' HASC hns
                  go_wp2_with fail
                  go_quiet (fail)
                  go_wp2_with fail
                  by_cases hqp : q = p
                  · have HK2 := Lib.hid (show (oldAt p q : Int) = (oldAt p (q + 1) : Int) by unfold oldAt; rw [if_pos (by omega), if_neg (by omega)]; omega)
                    obtain ⟨v0, v1, v2, v3⟩ := HQ.out hqp
                    have y0 : (xt == (t : Int)) = true := by simp [v0]
                    have y1 : (xs == s) = true := by simp [v1]
                    have y2 : (xe == s + l0) = true := by simp [v2]
                    have y3 : (xo == 100 + j0) = true := by simp [v3]
                    clear hqp v0 v1 v2 v3 HQ HNE HOLD
                    go_quiet (fail)
                    go_wp2_with fail
                    go_roundw
                    case rel => exact ⟨q + 1, hqA, by go_num, by rw [HK2.out], Lib.hid (below_drewN HW.out _)⟩
                    case measure => simp [intOf]; omega
                  · obtain ⟨n0, n1⟩ := HNE.out hqp
                    have kl : oldAt p q < L.length := by unfold oldAt; have := HAl.out; split <;> omega
                    have e9 := HOLD.out hqp kl
                    obtain ⟨lb, lo, rfl, hlb, hlc⟩ := ((R5.out.below HW.out)).at (by omega)
                    obtain ⟨y0, y1, y2, y3⟩ := hlc (oldAt p q) kl
                    rw [e9] at y0 y1 y2 y3
                    simp only at y0 y1 y2 y3
                    have HK2 := Lib.hid (show (oldAt p q : Int) + 1 = (oldAt p (q + 1) : Int) from oldAt_succ hqp)
                    have m0 : (0 : Int) ≤ (oldAt p q : Int) := by omega
                    have m1 : (oldAt p q : Int) < (L.length : Int) := by omega
                    have m2 : ¬ (L.length : Int) ≤ (oldAt p q : Int) := by omega
                    have m3 : decide ((L.length : Int) ≤ (oldAt p q : Int)) = false := by simp; omega
                    have m4 : IntKind.i64.wrap ((oldAt p q : Int) + 1) = (oldAt p q : Int) + 1 := IntWalk.i64_in _ (by omega)
                    clear hlc e9 HQ HNE HOLD hqp
                    generalize oldAt p q = ok at *
                    subst n0
                    have nb : (xs == s) = false := by simp [n1]
                    go_quiet (fail)
                    go_wp2_with fail
                    go_quiet (fail)
                    go_wp2_with fail
                    go_roundw
                    case rel => exact ⟨q + 1, hqA, by go_num, by rw [← HK2.out], Lib.hid (below_drewN HW.out _)⟩
                    case measure => simp [intOf]; omega
              · have k4 : ¬ (q : Int) < (A.length : Int) := by omega
                have e1 : oldAt p q = L.length := by unfold oldAt; have := HAl.out; rw [if_neg (by omega)]; omega
                rw [e1]
                clear e1
                have hLb : ((L.length : Int) != (L.length : Int)) = false := by simp
                have HLe := Lib.hid (len_is (HC10.out.is.below (below_step B11.out HW.out)))
                rw [HLen.out, HM.out] at HLe
                have jr := cell_below (below_step B11.out HW.out) JR10.out
                have HMn := Lib.hid (show (Kal.all Kn).length = m + 1 by rw [HLen.out, HM.out])
                have BZ := Lib.hid (below_step B11.out HW.out)
                go_wp2_with fail
                refine HLe.out.mono ?_
                rintro _ w12 ⟨rfl, rfl⟩
                have hmb : (((m + 1 : Nat) : Int) != (m : Int) + 1) = false := by simp
                have hmb2 : ((m : Int) + 1 != (m : Int) + 1) = false := by simp
                go_wp2_with fail
                go_roundw
                case rel => exact ⟨i + 1, m + 1, j1, Kn, hlt, by omega, by omega, by go_num, rfl, by go_num, HMn, HOk2, Lib.hid (HC10.out.below BZ.out), Lib.hid (JJ10.out.below BZ.out), Lib.hid (Nat.le_trans HZ10.out BZ.out.size)⟩
                case measure => simp [intOf]; omega
          refine AllReadyH.cons (o := { dst := some 20, op := Op.alloc 36, type := 0, pos := "law.go:154", after := #[], guard := none }) rfl (fun K hK => ?_) AllReadyH.nil
          go_simp
          have hSz : Below w8.heap.size w8 (w8.alloc (.cells #[.int .i64 0, .int .i64 0, .int .i64 0, .int .i64 0] 36)).drew := (below_new w8 (.cells #[.int .i64 0, .int .i64 0, .int .i64 0, .int .i64 0] 36)).drew
          have ZB : (w8.alloc (.cells #[.int .i64 0, .int .i64 0, .int .i64 0, .int .i64 0] 36)).drew.heap[w8.heap.size]? = _ := heap_alloc_new w8 (.cells #[.int .i64 0, .int .i64 0, .int .i64 0, .int .i64 0] 36)
          have hT : w8.heap.size ≤ w8.heap.size := Nat.le_refl _
          refine hK.out _ _ (hSz) (fun hHeld' => ?_)
          clear hK K hHeld
          have hHeld := hHeld'; clear hHeld'
          try simp only [Act.put, List.setIfInBounds_toArray, List.set_cons_zero, List.set_cons_succ]
          generalize (w8.alloc (.cells #[.int .i64 0, .int .i64 0, .int .i64 0, .int .i64 0] 36)).drew = wa at *
          refine wpAnyH_ready (rs := [5]) (by kernel_rfl) (by simp) ?_
          refine AllReadyH.cons (o := { dst := some 75, op := Op.call { callee := Callee.value (Operand.func 29), args := #[Operand.tmp 73, Operand.tmp 74], argTypes := #[3, 43] }, type := 3, pos := "law.go:154", after := #[{ on := 3, ground := Ground.data }, { on := 4, ground := Ground.data }], guard := none }) rfl (fun K hK => ?_) AllReadyH.nil
          go_simp
          refine (HLn.out _).mono ?_; rintro e wz ⟨rfl, gz⟩
          have hSz := below_step hHeld gz
          have ZB := (gz.block w8.heap.size (lt_of_block ZB)).trans ZB
          clear gz
          refine hK.out _ _ (hSz) (fun hHeld' => ?_)
          clear hK K hHeld
          have hHeld := hHeld'; clear hHeld'
          try simp only [Act.put, List.setIfInBounds_toArray, List.set_cons_zero, List.set_cons_succ]
          refine wpAnyH_take (i := 6) (oi := { dst := some 76, op := Op.binOp BinOp.add 3 (Operand.tmp 72) (Operand.tmp 75) 3, type := 3, pos := "law.go:154", after := #[{ on := 2, ground := Ground.data }, { on := 5, ground := Ground.data }], guard := none }) (v := ?vc11_6) rfl (by kernel_rfl) (by kernel_rfl) (by kernel_rfl) (fun _ _ _ h => h) (Or.inl ⟨by rfl, ?yc11_6⟩) (by assumption) ?tc11_6
          case yc11_6 => (intro w hSw; try dsimp only at hSw); go_simp; try with_reducible rfl
          simp only [Act.put, List.setIfInBounds_toArray, List.set_cons_zero, List.set_cons_succ]
          refine wpAnyH_take (i := 10) (oi := { dst := some 80, op := Op.build 36 #[(0, Operand.tmp 70), (1, Operand.tmp 71), (2, Operand.tmp 76), (3, Operand.tmp 79)], type := 36, pos := "law.go:154", after := #[{ on := 0, ground := Ground.data }, { on := 1, ground := Ground.data }, { on := 6, ground := Ground.data }, { on := 9, ground := Ground.data }], guard := none }) (v := ?vc12_10) rfl (by kernel_rfl) (by kernel_rfl) (by kernel_rfl) (fun _ _ _ h => h) (Or.inl ⟨by rfl, ?yc12_10⟩) (by assumption) ?tc12_10
          case yc12_10 => (intro w hSw; try dsimp only at hSw); go_simp; try with_reducible rfl
          simp only [Act.put, List.setIfInBounds_toArray, List.set_cons_zero, List.set_cons_succ]
          refine wpAnyH_ready (rs := [12]) (by kernel_rfl) (by simp) ?_
          refine AllReadyH.cons (o := { dst := none, op := Op.store 36 (Operand.tmp 20) (Operand.tmp 80), type := 0, pos := "law.go:154", after := #[{ on := 11, ground := Ground.data }, { on := 10, ground := Ground.data }, { on := 5, ground := Ground.chain }, { on := 0, ground := Ground.phase }, { on := 1, ground := Ground.phase }, { on := 2, ground := Ground.phase }, { on := 3, ground := Ground.phase }, { on := 4, ground := Ground.phase }, { on := 5, ground := Ground.phase }, { on := 6, ground := Ground.phase }, { on := 7, ground := Ground.phase }, { on := 8, ground := Ground.phase }, { on := 9, ground := Ground.phase }, { on := 10, ground := Ground.phase }, { on := 11, ground := Ground.phase }], guard := none }) rfl (fun K hK => ?_) AllReadyH.nil
          have e0 := box_cell ZB 0 _ rfl; have e1 := box_cell ZB 1 _ rfl; have e2 := box_cell ZB 2 _ rfl; have e3 := box_cell ZB 3 _ rfl
          have f0 := box_fz ZB 0; have f1 := box_fz ZB 1; have f2 := box_fz ZB 2; have f3 := box_fz ZB 3
          go_simp
          have hSz : Below w8.heap.size w8 ((((wz.setCell ⟨w8.heap.size, 0, none⟩ (.int .i64 (t : Int))).setCell ⟨w8.heap.size, 1, none⟩ (.int .i64 s)).setCell ⟨w8.heap.size, 2, none⟩ (.int .i64 (s + l0))).setCell ⟨w8.heap.size, 3, none⟩ (.int .i64 (100 + j0))) := ((((show Below w8.heap.size w8 wz from hHeld).setCell hT _).setCell hT _).setCell hT _).setCell hT _
          have ZF : ((((wz.setCell ⟨w8.heap.size, 0, none⟩ (.int .i64 (t : Int))).setCell ⟨w8.heap.size, 1, none⟩ (.int .i64 s)).setCell ⟨w8.heap.size, 2, none⟩ (.int .i64 (s + l0))).setCell ⟨w8.heap.size, 3, none⟩ (.int .i64 (100 + j0))).heap[w8.heap.size]? = some (.cells #[.int .i64 (t : Int), .int .i64 s, .int .i64 (s + l0), .int .i64 (100 + j0)] 36) := block_set (block_set (block_set (block_set ZB _) _) _) _
          clear e0 e1 e2 e3 f0 f1 f2 f3
          refine hK.out _ _ (hSz) (fun hHeld' => ?_)
          clear hK K hHeld
          have hHeld := hHeld'; clear hHeld'
          try simp only [Act.put, List.setIfInBounds_toArray, List.set_cons_zero, List.set_cons_succ]
          generalize (((wz.setCell ⟨w8.heap.size, 0, none⟩ (.int .i64 (t : Int))).setCell ⟨w8.heap.size, 1, none⟩ (.int .i64 s)).setCell ⟨w8.heap.size, 2, none⟩ (.int .i64 (s + l0))).setCell ⟨w8.heap.size, 3, none⟩ (.int .i64 (100 + j0)) = w9 at *
          refine wpAnyH_done (by kernel_rfl) ?_ _
          obtain ⟨T, hTe⟩ : ∃ T, T = w8.heap.size := ⟨_, rfl⟩
          rw [← hTe] at ZF ⊢
          replace hT : w8.heap.size ≤ T := by omega
          clear hTe
          have BX := Lib.hid (below_step B8.out hHeld)
          have HT := Lib.hid (show wr.heap.size ≤ T from Nat.le_trans B8.out.size hT)
          have O9 := Lib.hid (own_below O8.out hHeld)
          have JR := Lib.hid (cell_below hHeld z1)
          have HB7 := Lib.hid (show wr.heap.size ≤ w7.heap.size from B7.out.size)
          have HC9 := Lib.hid (HC.out.more BX.out)
          have HBo := Lib.hid (book_off ⟨(t : Int), s, s + l0, 100 + j0⟩ HC9.out)
          have c0 := box_cell ZF 0 _ rfl; have c1 := box_cell ZF 1 _ rfl; have c2 := box_cell ZF 2 _ rfl; have c3 := box_cell ZF 3 _ rfl
          have ZH := Lib.hid ZF
          have JJ9 := Lib.hid (HJ.out.below BX.out)
          have HIn := Lib.hid (ins_ok HOk.out (t := t) (by omega) (b := ⟨(t : Int), s, s + l0, 100 + j0⟩) rfl HFr.out)
          have HLen := Lib.hid (len_book K ⟨(t : Int), s, s + l0, 100 + j0⟩)
          rw [HFr.out] at HLen HBo
          simp only [if_true] at HLen HBo
          have HOk2 := Lib.hid (HOk.out.book ⟨(t : Int), s, s + l0, 100 + j0⟩)
          have hKl := HOk.out.len (i := t) (by omega)
          have d3 : IntKind.i64.wrap ((m : Int) + 1) = (m : Int) + 1 := IntWalk.i64_in _ (by omega)
          clear hHeld ZF z0 z1 z2 z3 z4 z5 z6 BD
          go_wp2_with fail
          refine HBo.out.mono ?_
          rintro _ w10 ⟨rfl, hoff, hch⟩
          have O10 := Lib.hid (own_ch O9.out hch (fun kk hkk h => h.1 (.inr (O9.out.lt kk hkk).1)))
          have JR10 := Lib.hid (cell_ch hch JR.out (fun h => h.1 (.inr HB7.out)))
          have ZH10 := Lib.hid ((hch.block T (lt_of_block ZH.out) (fun h => h.1 (.inr HT.out))).trans ZH.out)
          have JJ10 := Lib.hid (JJ9.out.ch hch (fun x hx h => h.1 (.inl (HA3.out x hx))))
          have HC10 := Lib.hid (hoff.sub (S' := fun k => w2.heap.size ≤ k ∧ k < w3.heap.size) (fun k hk => ⟨.inl hk, Nat.lt_of_lt_of_le (Nat.lt_of_lt_of_le hk.2 HZ.out) BX.out.size⟩))
          have HZ10 := Lib.hid (Nat.le_trans HZ.out (Nat.le_trans BX.out.size hch.size))
          clear hoff hch HBo O9 JR ZH JJ9 c0 c1 c2 c3
          have HLs2 := Lib.hid (list_is (t : Int) HC10.out.is)
          rw [if_pos (show Kal.isTool (t : Int) = true by unfold Kal.isTool; simp; omega), Int.toNat_natCast] at HLs2
          unfold NewRow at HLs2
          generalize hKn : Kal.book K ⟨(t : Int), s, s + l0, 100 + j0⟩ = Kn at *
          clear hKn
          generalize hL : K t = L at *
          generalize hA : Kn t = A at *
          generalize hp : Kal.fb L s = p at *
          clear hL hA hp
          go_wp2_with fail
          refine HLs2.out.mono ?_
          rintro _ w11 ⟨v11, rfl, o11, b11⟩
          obtain ⟨a11, c11, rfl, r11, -⟩ := o11.arg
          have R11 := Lib.hid r11
          obtain ⟨a5', c5', ev, r5, -⟩ := BkOwn.arg (own_below O10.out b11)
          injection ev with ev1 ev2 ev3; subst ev1; subst ev3
          have R5 := Lib.hid r5
          have B11 := Lib.hid b11
          have ZH11 := Lib.hid ((b11.block T (lt_of_block ZH10.out)).trans ZH10.out)
          have HAl := Lib.hid HIn.out.len
          have hpl := HIn.out.le
          have hAle : A.length ≤ 1000001 := by have := HAl.out; omega
          clear o11 r11 r5 b11 HLs2 O10
          go_wp2_with fail
          go_loopw [22, 23] (fun kk qq wv => ∃ q : Nat, q ≤ A.length ∧ qq = .int .i64 (q : Int) ∧ kk = .int .i64 (oldAt p q : Int) ∧ Hid (Below w11.heap.size w11 wv)) (fun _ qq _ => A.length - (intOf qq).toNat)
          case atStart => exact ⟨0, Nat.zero_le _, rfl, by simp [oldAt], Lib.hid (Below.refl _ _)⟩
          case round =>
            obtain ⟨q, hq, rfl, rfl, HW⟩ := hrel
            by_cases hqA : q < A.length
            · obtain ⟨ab, ao, rfl, hab, hac⟩ := (R11.out.below HW.out).at (by omega)
              obtain ⟨u0, u1, u2, u3⟩ := hac q hqA
              clear hac
              have k3 : (0 : Int) ≤ (q : Int) := by omega
              have k4 : (q : Int) < (A.length : Int) := by omega
              have ZW := (HW.out.block T (lt_of_block ZH11.out)).trans ZH11.out
              have g0 := box_cell ZW 0 _ rfl; have g1 := box_cell ZW 1 _ rfl; have g2 := box_cell ZW 2 _ rfl; have g3 := box_cell ZW 3 _ rfl
              clear ZW
              have HASC := Lib.hid (fun (q' : Nat) (e : q = q' + 1) => show ∃ h : q' < A.length, ¬ A[q].s < A[q'].e from by
                subst e; exact ⟨by omega, by have := HIn.out.asc q' (by omega) hqA; omega⟩)
              have ko : oldAt p q ≤ L.length := by unfold oldAt; have := HAl.out; split <;> omega
              have HQ := Lib.hid (fun (e : q = p) => show A[q].tool = (t : Int) ∧ A[q].s = s ∧ A[q].e = s + l0 ∧ A[q].o = 100 + j0 from by
                have : ∀ (x : Nat) (hx : x < A.length), x = p → A[x] = ⟨(t : Int), s, s + l0, 100 + j0⟩ := fun x hx e => by subst e; exact HIn.out.here hx
                rw [this q hqA e]; exact ⟨rfl, rfl, rfl, rfl⟩)
              have HNE := Lib.hid (fun (e : ¬ q = p) => show A[q].tool = (t : Int) ∧ A[q].s ≠ s from HIn.out.ne q hqA e)
              have HOLD := Lib.hid (fun (e : ¬ q = p) (kl : oldAt p q < L.length) => show L[oldAt p q] = A[q] from (HIn.out.old q (oldAt p q) hqA kl e rfl).symm)
              generalize hx : A[q] = x at *
              clear hx
              obtain ⟨xt, xs, xe, xo⟩ := x
              simp only at u0 u1 u2 u3 HASC HQ HNE HOLD
              by_cases hq0 : q = 0
              · have z1 : ¬ 0 < q := by omega
                have z2 : decide (0 < q) = false := by simp; omega
                have z3 : decide ((0 : Int) < (q : Int)) = false := by simp; omega
                have z4 : ¬ (0 : Int) < (q : Int) := by omega
                clear hq0 HASC
                go_wp2_with fail
                go_quiet (fail)
                by_cases hqp : q = p
                · have HK2 := Lib.hid (show (oldAt p q : Int) = (oldAt p (q + 1) : Int) by unfold oldAt; rw [if_pos (by omega), if_neg (by omega)]; omega)
                  obtain ⟨v0, v1, v2, v3⟩ := HQ.out hqp
                  have y0 : (xt == (t : Int)) = true := by simp [v0]
                  have y1 : (xs == s) = true := by simp [v1]
                  have y2 : (xe == s + l0) = true := by simp [v2]
                  have y3 : (xo == 100 + j0) = true := by simp [v3]
                  clear hqp v0 v1 v2 v3 HQ HNE HOLD
                  go_wp2_with fail
                  go_quiet (fail)
                  go_wp2_with fail
                  go_roundw
                  case rel => exact ⟨q + 1, hqA, by go_num, by rw [HK2.out], Lib.hid (below_drewN HW.out _)⟩
                  case measure => simp [intOf]; omega
                · obtain ⟨n0, n1⟩ := HNE.out hqp
                  have kl : oldAt p q < L.length := by unfold oldAt; have := HAl.out; split <;> omega
                  have e9 := HOLD.out hqp kl
                  obtain ⟨lb, lo, rfl, hlb, hlc⟩ := ((R5.out.below HW.out)).at (by omega)
                  obtain ⟨y0, y1, y2, y3⟩ := hlc (oldAt p q) kl
                  rw [e9] at y0 y1 y2 y3
                  simp only at y0 y1 y2 y3
                  have HK2 := Lib.hid (show (oldAt p q : Int) + 1 = (oldAt p (q + 1) : Int) from oldAt_succ hqp)
                  have m0 : (0 : Int) ≤ (oldAt p q : Int) := by omega
                  have m1 : (oldAt p q : Int) < (L.length : Int) := by omega
                  have m2 : ¬ (L.length : Int) ≤ (oldAt p q : Int) := by omega
                  have m3 : decide ((L.length : Int) ≤ (oldAt p q : Int)) = false := by simp; omega
                  have m4 : IntKind.i64.wrap ((oldAt p q : Int) + 1) = (oldAt p q : Int) + 1 := IntWalk.i64_in _ (by omega)
                  clear hlc e9 HQ HNE HOLD hqp
                  generalize oldAt p q = ok at *
                  subst n0
                  have nb : (xs == s) = false := by simp [n1]
                  go_wp2_with fail
                  go_quiet (fail)
                  go_wp2_with fail
                  go_quiet (fail)
                  go_wp2_with fail
                  go_roundw
                  case rel => exact ⟨q + 1, hqA, by go_num, by rw [← HK2.out], Lib.hid (below_drewN HW.out _)⟩
                  case measure => simp [intOf]; omega
              · obtain ⟨q', hq'⟩ : ∃ q', q = q' + 1 := ⟨q - 1, by omega⟩
                obtain ⟨hq2, hns⟩ := HASC.out q' hq'
                obtain ⟨ab2, ao2, e2b, -, hac⟩ := (R11.out.below HW.out).at (by omega)
                injection e2b with ee1
                injection ee1 with ee2 ee3
                subst ee2; subst ee3
                obtain ⟨-, -, e2, -⟩ := hac q' hq2
                clear hac
                have z1 : 0 < q := by omega
                have z2 : decide (0 < q) = true := by simp; omega
                have z3 : decide ((0 : Int) < (q : Int)) = true := by simp; omega
                have z4 : (0 : Int) < (q : Int) := by omega
                have z5 : IntKind.i64.wrap ((q : Int) - 1) = (q' : Int) := by rw [IntWalk.i64_in _ (by omega)]; omega
                have z6 : (0 : Int) ≤ (q' : Int) := by omega
                have z7 : (q' : Int) < (A.length : Int) := by omega
                have z9 : ¬ xs < A[q'].e := hns
                generalize A[q'].e = ee at *
                have z8 : decide (xs < ee) = false := by simp; omega
                clear hq0 hq' HASC hns
                go_wp2_with fail
                go_quiet (fail)
                go_wp2_with fail
                by_cases hqp : q = p
                · have HK2 := Lib.hid (show (oldAt p q : Int) = (oldAt p (q + 1) : Int) by unfold oldAt; rw [if_pos (by omega), if_neg (by omega)]; omega)
                  obtain ⟨v0, v1, v2, v3⟩ := HQ.out hqp
                  have y0 : (xt == (t : Int)) = true := by simp [v0]
                  have y1 : (xs == s) = true := by simp [v1]
                  have y2 : (xe == s + l0) = true := by simp [v2]
                  have y3 : (xo == 100 + j0) = true := by simp [v3]
                  clear hqp v0 v1 v2 v3 HQ HNE HOLD
                  go_quiet (fail)
                  go_wp2_with fail
                  go_roundw
                  case rel => exact ⟨q + 1, hqA, by go_num, by rw [HK2.out], Lib.hid (below_drewN HW.out _)⟩
                  case measure => simp [intOf]; omega
                · obtain ⟨n0, n1⟩ := HNE.out hqp
                  have kl : oldAt p q < L.length := by unfold oldAt; have := HAl.out; split <;> omega
                  have e9 := HOLD.out hqp kl
                  obtain ⟨lb, lo, rfl, hlb, hlc⟩ := ((R5.out.below HW.out)).at (by omega)
                  obtain ⟨y0, y1, y2, y3⟩ := hlc (oldAt p q) kl
                  rw [e9] at y0 y1 y2 y3
                  simp only at y0 y1 y2 y3
                  have HK2 := Lib.hid (show (oldAt p q : Int) + 1 = (oldAt p (q + 1) : Int) from oldAt_succ hqp)
                  have m0 : (0 : Int) ≤ (oldAt p q : Int) := by omega
                  have m1 : (oldAt p q : Int) < (L.length : Int) := by omega
                  have m2 : ¬ (L.length : Int) ≤ (oldAt p q : Int) := by omega
                  have m3 : decide ((L.length : Int) ≤ (oldAt p q : Int)) = false := by simp; omega
                  have m4 : IntKind.i64.wrap ((oldAt p q : Int) + 1) = (oldAt p q : Int) + 1 := IntWalk.i64_in _ (by omega)
                  clear hlc e9 HQ HNE HOLD hqp
                  generalize oldAt p q = ok at *
                  subst n0
                  have nb : (xs == s) = false := by simp [n1]
                  go_quiet (fail)
                  go_wp2_with fail
                  go_quiet (fail)
                  go_wp2_with fail
                  go_roundw
                  case rel => exact ⟨q + 1, hqA, by go_num, by rw [← HK2.out], Lib.hid (below_drewN HW.out _)⟩
                  case measure => simp [intOf]; omega
            · have k4 : ¬ (q : Int) < (A.length : Int) := by omega
              have e1 : oldAt p q = L.length := by unfold oldAt; have := HAl.out; rw [if_neg (by omega)]; omega
              rw [e1]
              clear e1
              have hLb : ((L.length : Int) != (L.length : Int)) = false := by simp
              have HLe := Lib.hid (len_is (HC10.out.is.below (below_step B11.out HW.out)))
              rw [HLen.out, HM.out] at HLe
              have jr := cell_below (below_step B11.out HW.out) JR10.out
              have HMn := Lib.hid (show (Kal.all Kn).length = m + 1 by rw [HLen.out, HM.out])
              have BZ := Lib.hid (below_step B11.out HW.out)
              go_wp2_with fail
              refine HLe.out.mono ?_
              rintro _ w12 ⟨rfl, rfl⟩
              have hmb : (((m + 1 : Nat) : Int) != (m : Int) + 1) = false := by simp
              have hmb2 : ((m : Int) + 1 != (m : Int) + 1) = false := by simp
              go_wp2_with fail
              go_roundw
              case rel => exact ⟨i + 1, m + 1, j1, Kn, hlt, by omega, by omega, by go_num, rfl, by go_num, HMn, HOk2, Lib.hid (HC10.out.below BZ.out), Lib.hid (JJ10.out.below BZ.out), Lib.hid (Nat.le_trans HZ10.out BZ.out.size)⟩
              case measure => simp [intOf]; omega
    · have BW := Lib.hid (below_step B1.out HC.out.is.bel)
      by_cases h1 : i < Y.length
      · have e1 : (i : Int) < (Y.length : Int) := by omega
        have e2 : ¬ (i : Int) < 20 := by omega
        go_wp2_with fail
        go_ret
        exact ⟨rfl, BW.out⟩
      · have e1 : ¬ (i : Int) < (Y.length : Int) := by omega
        go_wp2_with fail
        go_ret
        exact ⟨rfl, BW.out⟩
end Go.Proofs.Ytjdhjlhcdpekbaa
