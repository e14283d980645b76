/-
  The walk of DispatchOrdered.
-/
import Derived.Test.YtjdhjlhcdpekbaaPk
import Derived.Test.YtjdhjlhcdpekbaaBatchW
import Derived.Deep.RegionHeld3
namespace Go.Proofs.Ytjdhjlhcdpekbaa
open Go.RowKit Go.Shelf Go.Sort Dsp

theorem jobs_nodup (X : List (List Int)) : (jobsL X).Nodup := by
  refine List.nodup_iff_pairwise_ne.2 (List.pairwise_iff_getElem.2 fun i k hi hk hik e => ?_)
  have := lot_inj hi hk (by rw [e])
  omega
theorem order_lots {X : List (List Int)} {rs : List Int} {r : Int} {i k : Nat} (hi : i < (order rs r (jobsL X)).length) (hk : k < (order rs r (jobsL X)).length) (h : (order rs r (jobsL X))[i].lot = (order rs r (jobsL X))[k].lot) : i = k := by
  have hn : (order rs r (jobsL X)).Nodup := (order_perm rs r (jobsL X)).nodup_iff.2 (jobs_nodup X)
  obtain ⟨p, hp, ep⟩ := List.getElem_of_mem ((order_perm rs r (jobsL X)).mem_iff.1 (List.getElem_mem hi))
  obtain ⟨q, hq, eq⟩ := List.getElem_of_mem ((order_perm rs r (jobsL X)).mem_iff.1 (List.getElem_mem hk))
  have hpq := lot_inj hp hq (by rw [ep, eq]; exact h)
  subst hpq
  rw [ep] at eq
  have hp := List.pairwise_iff_getElem.1 (List.nodup_iff_pairwise_ne.1 hn)
  rcases Nat.lt_trichotomy i k with h1 | h1 | h1
  · exact absurd eq (hp i k hi hk h1)
  · exact h1
  · exact absurd eq.symm (hp k i hk hi h1)
theorem order_mem {X : List (List Int)} {rs : List Int} {r : Int} {i : Nat} (hi : i < (order rs r (jobsL X)).length) : ∃ q, ∃ h : q < (jobsL X).length, (jobsL X)[q] = (order rs r (jobsL X))[i] :=
  List.getElem_of_mem ((order_perm rs r (jobsL X)).mem_iff.1 (List.getElem_mem hi))
theorem order_ahead {J : List Jb} {rs : List Int} {r : Int} {i k : Nat} (hi : i < (order rs r J).length) (hki : k < i) : Dsp.ahead rs r (order rs r J)[i] ((order rs r J)[k]'(by omega)) = false :=
  List.pairwise_iff_getElem.1 (order_sorted rs r J) k i (by omega) hi hki
/-- What the order of the jobs is. -/
structure OrdOk (rs : List Int) (r : Int) (J L : List Jb) : Prop where
  len : L.length = J.length
  mem : ∀ i, ∀ hi : i < L.length, ∃ q, ∃ h : q < J.length, J[q] = L[i]
  lots : ∀ i k, ∀ hi : i < L.length, ∀ hk : k < L.length, L[i].lot = L[k].lot → i = k
  inj : ∀ i k, ∀ hi : i < J.length, ∀ hk : k < J.length, J[i].lot = J[k].lot → i = k
  ahead : ∀ i k, ∀ hi : i < L.length, ∀ hk : k < L.length, k < i → Dsp.ahead rs r L[i] L[k] = false
theorem ord_ok (X : List (List Int)) (rs : List Int) (r : Int) : OrdOk rs r (jobsL X) (order rs r (jobsL X)) :=
  ⟨order_len _ _ _, fun _ hi => order_mem hi, fun _ _ hi hk => order_lots hi hk, fun _ _ hi hk => lot_inj hi hk, fun _ _ hi _ h => order_ahead hi h⟩
theorem ahead_hot {x : Int} {rs : List Int} {r : Int} {a b : Jb} (h : Dsp.ahead (x :: rs) r a b = false) (hx : x = 1) (ha : a.hot = true) : b.hot = true := by
  subst hx
  cases hb : b.hot
  · rw [Dsp.ahead, if_pos (by simp [byR, ha, hb])] at h; cases h
  · rfl

theorem ahead_hot0 {rs : List Int} (h0 : 0 < rs.length) {r : Int} {a b : Jb} (h : Dsp.ahead rs r a b = false) (hx : rs[0] = 1) (ha : a.hot = true) : b.hot = true := by
  cases rs with
  | nil => simp at h0
  | cons x l => exact ahead_hot h hx ha

set_option maxRecDepth 100000 in
set_option maxHeartbeats 8000000 in
theorem orderedLaw_any (a1 : Option Addr) (c1 : Nat) (X : List (List Int)) (n rcp : Int) (W : World) (hX : ArrsA 4 W a1 c1 X)
    (n1 : -9223372036854775808 ≤ n) (n2 : n ≤ 9223372036854775807) (r1 : -9223372036854775808 ≤ rcp) (r2 : rcp ≤ 9223372036854775807) :
    Calls Try.prog 7 #[.slice a1 X.length c1, .int .i64 n, .int .i64 rcp] W fun e w' => e = .returned (.bool true) ∧ Below W.heap.size W w' := by
  have HX := Lib.hid hX
  have HS := Lib.hid (sane_any W)
  have HR := Lib.hid (fun w => rules_any n w ⟨n1, n2⟩)
  unfold NewInts at HR
  have HP3 := Lib.hid (fun w => pick_any rcp 4 w ⟨r1, r2⟩ (by omega))
  generalize pickZ rcp 4 = r at *
  clear hX n1 n2 r1 r2
  go_enter Try.func7, Try.ntmps7
  go_wp2_with fail
  refine HS.out.mono ?_
  rintro _ w1 ⟨rfl, b1⟩
  have HJ := Lib.hid (jobs_any X a1 c1 w1 (HX.out.below b1))
  unfold NewJobs at HJ
  have B1 := Lib.hid b1
  clear b1 HS
  go_wp2_with fail
  refine HJ.out.mono ?_
  rintro _ w3 ⟨v3, rfl, o3, b3⟩
  obtain ⟨a3, c3, rfl, j3, -⟩ := o3.arg
  have J3 := Lib.hid j3; have B3 := Lib.hid (below_step B1.out b3)
  clear o3 b3 j3 HJ
  go_wp2_with fail
  refine (HP3.out _).mono ?_
  rintro _ _ ⟨rfl, rfl⟩
  go_wp2_with fail
  refine (HR.out _).mono ?_
  rintro _ w4 ⟨v4, rfl, o4, b4⟩
  obtain ⟨a4, c4, rfl, r4⟩ := o4.arg
  have R4 := Lib.hid r4; have B4 := Lib.hid (below_step B3.out b4); have J4 := Lib.hid (J3.out.below b4)
  have HO := Lib.hid (Order_any _ _ _ r _ _ _ _ R4.out (rules_1000 n) (jobs_20 X) J4.out)
  unfold NewJobs at HO
  rw [show orderV (rulesL n) r (jobsL X) = order (rulesL n) r (jobsL X) by unfold orderV; rw [rulesL_valid]; rfl] at HO
  clear o4 b4 r4 HR J3
  go_wp2_with fail
  refine HO.out.mono ?_
  rintro _ w5 ⟨v5, rfl, o5, b5⟩
  obtain ⟨a5, c5, rfl, j5, -⟩ := o5.arg
  have R5 := Lib.hid (R4.out.below b5); have B5 := Lib.hid (below_step B4.out b5); have J5 := Lib.hid (J4.out.below b5); have L5 := Lib.hid j5
  have hlj := jobsL_len X
  have HK := Lib.hid (ord_ok X (rulesL n) r)
  have hrl := rules_1000 n
  generalize order (rulesL n) r (jobsL X) = L at *
  generalize jobsL X = J at *
  generalize rulesL n = rs at *
  clear o5 b5 j5 HO J4 R4
  have hlb : ((L.length : Int) != (J.length : Int)) = false := by have h := HK.out.len; simp [h]
  have hL12 : L.length ≤ 12 := by have h := HK.out.len; omega
  go_wp2_with fail
  clear hlb
  go_loopw [11] (fun i wr => ∃ k : Nat, k ≤ L.length ∧ i = .int .i64 (k : Int) ∧ Hid (Below w5.heap.size w5 wr)) (fun i _ => L.length - (intOf i).toNat)
  case atStart => exact ⟨0, Nat.zero_le _, rfl, Lib.hid (Below.refl _ _)⟩
  case round =>
    obtain ⟨i, hi, rfl, HW⟩ := hrel
    by_cases hlt : i < L.length
    · obtain ⟨b, off, rfl, hb, hc⟩ := L5.out.at (by omega)
      have HC := Lib.hid hc
      obtain ⟨q, hq, eq⟩ := HK.out.mem i hlt
      have HEq := Lib.hid eq
      have i0 : (0 : Int) ≤ (i : Int) := by omega
      have i1 : (i : Int) < (L.length : Int) := by omega
      clear hc eq
      go_wp2_with fail
      go_loopw [12, 13] (fun ff kk wr => ∃ k : Nat, k ≤ J.length ∧ kk = .int .i64 (k : Int) ∧ ff = .int .i64 (if q < k then 1 else 0) ∧ Hid (Below w5.heap.size w5 wr)) (fun _ kk _ => J.length - (intOf kk).toNat)
      case atStart => exact ⟨0, Nat.zero_le _, rfl, by rw [if_neg (by omega)], HW⟩
      case round =>
        obtain ⟨k, hk, rfl, rfl, HW2⟩ := hrel
        by_cases hlt2 : k < J.length
        · obtain ⟨x0, x1, x2, x3, x4, x5, x6⟩ := JbC.below (w := w5) (HC.out i hlt) HW2.out
          obtain ⟨b', off', rfl, hb', hc'⟩ := (J5.out.below HW2.out).at (by omega)
          obtain ⟨y0, y1, y2, y3, y4, y5, y6⟩ := hc' k hlt2
          have k0 : (0 : Int) ≤ (k : Int) := by omega
          have k1 : (k : Int) < (J.length : Int) := by omega
          clear hc'
          by_cases hkq : k = q
          · subst hkq
            have e := HEq.out
            rw [e] at y0 y1 y2 y3 y4 y5 y6
            have g1 : (if k < k then (1 : Int) else 0) = 0 := by rw [if_neg (by omega)]
            have G2 := Lib.hid (show (1 : Int) = (if k < k + 1 then (1 : Int) else 0) by rw [if_pos (by omega)])
            rw [g1]
            clear e g1
            generalize L[i] = j at *
            obtain ⟨j0, j1, j2, j3, j4, j5, j6⟩ := j
            simp only at x0 x1 x2 x3 x4 x5 x6 y0 y1 y2 y3 y4 y5 y6
            go_wp2_with fail
            go_quiet (fail)
            go_wp2_with fail
            go_roundw
            case rel => exact ⟨k + 1, hlt2, by go_num, by rw [← G2.out], Lib.hid (below_drewN HW2.out _)⟩
            case measure => simp [intOf]; omega
          · have hne : ¬ L[i].lot = J[k].lot := fun e => hkq (HK.out.inj k q hlt2 hq (by rw [HEq.out]; exact e.symm))
            have G2 := Lib.hid (show (if q < k then (1 : Int) else 0) = (if q < k + 1 then (1 : Int) else 0) by
              by_cases h : q < k
              · rw [if_pos h, if_pos (by omega)]
              · rw [if_neg h, if_neg (by omega)])
            generalize (if q < k then (1 : Int) else 0) = f at *
            generalize J[k] = p at *
            generalize L[i] = j at *
            obtain ⟨j0, j1, j2, j3, j4, j5, j6⟩ := j
            obtain ⟨p0, p1, p2, p3, p4, p5, p6⟩ := p
            simp only at x0 x1 x2 x3 x4 x5 x6 y0 y1 y2 y3 y4 y5 y6 hne
            have hneb : (j0 == p0) = false := by simp [hne]
            go_wp2_with fail
            go_quiet (fail)
            go_wp2_with fail
            go_roundw
            case rel => exact ⟨k + 1, hlt2, by go_num, by rw [← G2.out], Lib.hid (below_drewN HW2.out _)⟩
            case measure => simp [intOf]; omega
        · have k1 : ¬ (k : Int) < (J.length : Int) := by omega
          have g1 : (if q < k then (1 : Int) else 0) = 1 := by rw [if_pos (by omega)]
          rw [g1]
          clear g1
          go_wp2_with fail
          go_loopw [14] (fun kk wr => ∃ k : Nat, k ≤ i ∧ kk = .int .i64 (k : Int) ∧ Hid (Below w5.heap.size w5 wr)) (fun kk _ => i - (intOf kk).toNat)
          case atStart => exact ⟨0, Nat.zero_le _, rfl, HW2⟩
          case round =>
            obtain ⟨k2, hk2, rfl, HW3⟩ := hrel
            by_cases hlt3 : k2 < i
            · have hkL : k2 < L.length := by omega
              obtain ⟨x0, x1, x2, x3, x4, x5, x6⟩ := JbC.below (w := w5) (HC.out i hlt) HW3.out
              obtain ⟨y0, y1, y2, y3, y4, y5, y6⟩ := JbC.below (w := w5) (HC.out k2 hkL) HW3.out
              have hne : ¬ L[i].lot = L[k2].lot := fun e => by have := HK.out.lots i k2 hlt hkL e; omega
              have HAf := Lib.hid (HK.out.ahead i k2 hlt hkL hlt3)
              have k0 : (0 : Int) ≤ (k2 : Int) := by omega
              have k1 : (k2 : Int) < (i : Int) := by omega
              have k3 : (k2 : Int) < (L.length : Int) := by omega
              generalize L[k2] = p at *
              generalize L[i] = j at *
              obtain ⟨j0, j1, j2, j3, j4, j5, j6⟩ := j
              obtain ⟨p0, p1, p2, p3, p4, p5, p6⟩ := p
              simp only at x0 x1 x2 x3 x4 x5 x6 y0 y1 y2 y3 y4 y5 y6 hne
              have hneb : (j0 == p0) = false := by simp [hne]
              have HAc := Lib.hid (show ∀ w, Below wr.heap.size wr w → Calls Try.prog 41 #[.slice a4 rs.length c4, .int .i64 r, jbV ⟨j0, j1, j2, j3, j4, j5, j6⟩, jbV ⟨p0, p1, p2, p3, p4, p5, p6⟩] w fun e w' => e = .returned (.bool false) ∧ Below w.heap.size w w' from fun w h => by
                have := ahead_any rs a4 c4 r ⟨j0, j1, j2, j3, j4, j5, j6⟩ ⟨p0, p1, p2, p3, p4, p5, p6⟩ w (R5.out.below (below_step HW3.out h)) hrl
                rw [HAf.out] at this; exact this)
              have BD := Lib.hid (show Below wr.heap.size wr wr.drew from ⟨rfl, rfl, rfl, Nat.le_refl _, fun _ _ => rfl⟩)
              go_wp2_with fail
              refine wp_region_held_drew (S := (fun v => Below wr.heap.size wr v)) (by kernel_rfl) (BD.out) (fun hHeld => ?_)
              refine wpAnyH_take (i := 0) (oi := { dst := some 61, op := Op.move (Operand.tmp 9), type := 23, pos := "law.go:269", after := #[], guard := none }) (v := ?vq0) rfl (by kernel_rfl) (by kernel_rfl) (by kernel_rfl) (fun _ _ _ h => h) (Or.inl ⟨by rfl, ?yq0⟩) (by assumption) ?tq0
              case yq0 => (intro w hSw; try dsimp only at hSw); go_simp; try with_reducible rfl
              simp only [Act.put, List.setIfInBounds_toArray, List.set_cons_zero, List.set_cons_succ]
              refine wpAnyH_take (i := 1) (oi := { dst := some 62, op := Op.move (Operand.tmp 2), type := 3, pos := "law.go:269", after := #[], guard := none }) (v := ?vq1) rfl (by kernel_rfl) (by kernel_rfl) (by kernel_rfl) (fun _ _ _ h => h) (Or.inl ⟨by rfl, ?yq1⟩) (by assumption) ?tq1
              case yq1 => (intro w hSw; try dsimp only at hSw); go_simp; try with_reducible rfl
              simp only [Act.put, List.setIfInBounds_toArray, List.set_cons_zero, List.set_cons_succ]
              refine wpAnyH_take (i := 2) (oi := { dst := some 63, op := Op.move (Operand.tmp 10), type := 22, pos := "law.go:269", after := #[], guard := none }) (v := ?vq2) rfl (by kernel_rfl) (by kernel_rfl) (by kernel_rfl) (fun _ _ _ h => h) (Or.inl ⟨by rfl, ?yq2⟩) (by assumption) ?tq2
              case yq2 => (intro w hSw; try dsimp only at hSw); go_simp; try with_reducible rfl
              simp only [Act.put, List.setIfInBounds_toArray, List.set_cons_zero, List.set_cons_succ]
              refine wpAnyH_take (i := 3) (oi := { dst := some 64, op := Op.move (Operand.tmp 11), type := 3, pos := "law.go:269", after := #[], guard := none }) (v := ?vq3) rfl (by kernel_rfl) (by kernel_rfl) (by kernel_rfl) (fun _ _ _ h => h) (Or.inl ⟨by rfl, ?yq3⟩) (by assumption) ?tq3
              case yq3 => (intro w hSw; try dsimp only at hSw); go_simp; try with_reducible rfl
              simp only [Act.put, List.setIfInBounds_toArray, List.set_cons_zero, List.set_cons_succ]
              refine wpAnyH_take (i := 4) (oi := { dst := some 65, op := Op.indexAddr 22 (Operand.tmp 63) (Operand.tmp 64), type := 0, pos := "law.go:269", after := #[{ on := 2, ground := Ground.data }, { on := 3, ground := Ground.data }], guard := none }) (v := ?vq4) rfl (by kernel_rfl) (by kernel_rfl) (by kernel_rfl) (fun _ _ _ h => h) (Or.inl ⟨by rfl, ?yq4⟩) (by assumption) ?tq4
              case yq4 => (intro w hSw; try dsimp only at hSw); go_simp; try with_reducible rfl
              simp only [Act.put, List.setIfInBounds_toArray, List.set_cons_zero, List.set_cons_succ]
              refine wpAnyH_take (i := 5) (oi := { dst := some 66, op := Op.load 43 (Operand.tmp 65), type := 43, pos := "law.go:269", after := #[{ on := 4, ground := Ground.data }], guard := none }) (v := ?vq5) rfl (by kernel_rfl) (by kernel_rfl) (by kernel_rfl) (fun _ _ _ h => h) (Or.inl ⟨by rfl, ?yq5⟩) (by assumption) ?tq5
              case yq5 => (intro w hSw; have h0 := cell_below hSw x0; have h1 := cell_below hSw x1; have h2 := cell_below hSw x2; have h3 := cell_below hSw x3; have h4 := cell_below hSw x4; have h5 := cell_below hSw x5; have h6 := cell_below hSw x6); go_simp; try with_reducible rfl
              simp only [Act.put, List.setIfInBounds_toArray, List.set_cons_zero, List.set_cons_succ]
              refine wpAnyH_take (i := 6) (oi := { dst := some 67, op := Op.move (Operand.tmp 10), type := 22, pos := "law.go:269", after := #[], guard := none }) (v := ?vq6) rfl (by kernel_rfl) (by kernel_rfl) (by kernel_rfl) (fun _ _ _ h => h) (Or.inl ⟨by rfl, ?yq6⟩) (by assumption) ?tq6
              case yq6 => (intro w hSw; try dsimp only at hSw); go_simp; try with_reducible rfl
              simp only [Act.put, List.setIfInBounds_toArray, List.set_cons_zero, List.set_cons_succ]
              refine wpAnyH_take (i := 7) (oi := { dst := some 68, op := Op.move (Operand.tmp 14), type := 3, pos := "law.go:269", after := #[], guard := none }) (v := ?vq7) rfl (by kernel_rfl) (by kernel_rfl) (by kernel_rfl) (fun _ _ _ h => h) (Or.inl ⟨by rfl, ?yq7⟩) (by assumption) ?tq7
              case yq7 => (intro w hSw; try dsimp only at hSw); go_simp; try with_reducible rfl
              simp only [Act.put, List.setIfInBounds_toArray, List.set_cons_zero, List.set_cons_succ]
              refine wpAnyH_take (i := 8) (oi := { dst := some 69, op := Op.indexAddr 22 (Operand.tmp 67) (Operand.tmp 68), type := 0, pos := "law.go:269", after := #[{ on := 6, ground := Ground.data }, { on := 7, ground := Ground.data }], guard := none }) (v := ?vq8) rfl (by kernel_rfl) (by kernel_rfl) (by kernel_rfl) (fun _ _ _ h => h) (Or.inl ⟨by rfl, ?yq8⟩) (by assumption) ?tq8
              case yq8 => (intro w hSw; try dsimp only at hSw); go_simp; try with_reducible rfl
              simp only [Act.put, List.setIfInBounds_toArray, List.set_cons_zero, List.set_cons_succ]
              refine wpAnyH_take (i := 9) (oi := { dst := some 70, op := Op.load 43 (Operand.tmp 69), type := 43, pos := "law.go:269", after := #[{ on := 8, ground := Ground.data }], guard := none }) (v := ?vq9) rfl (by kernel_rfl) (by kernel_rfl) (by kernel_rfl) (fun _ _ _ h => h) (Or.inl ⟨by rfl, ?yq9⟩) (by assumption) ?tq9
              case yq9 => (intro w hSw; have h0 := cell_below hSw y0; have h1 := cell_below hSw y1; have h2 := cell_below hSw y2; have h3 := cell_below hSw y3; have h4 := cell_below hSw y4; have h5 := cell_below hSw y5; have h6 := cell_below hSw y6); go_simp; try with_reducible rfl
              simp only [Act.put, List.setIfInBounds_toArray, List.set_cons_zero, List.set_cons_succ]
              refine wpAnyH_ready (rs := [10]) (by kernel_rfl) (by simp) ?_
              refine AllReadyH.cons (o := { dst := some 71, op := Op.call { callee := Callee.value (Operand.func 41), args := #[Operand.tmp 61, Operand.tmp 62, Operand.tmp 66, Operand.tmp 70], argTypes := #[23, 3, 43, 43] }, type := 4, pos := "law.go:269", after := #[{ on := 0, ground := Ground.data }, { on := 1, ground := Ground.data }, { on := 5, ground := Ground.data }, { on := 9, ground := Ground.data }], guard := none }) rfl (fun K hK => ?_) AllReadyH.nil
              go_simp
              refine (HAc.out _ hHeld).mono ?_; rintro e wz ⟨rfl, gz⟩
              have hSz := below_step hHeld gz
              clear gz
              refine hK.out _ _ (hSz) (fun hHeld' => ?_)
              clear hK K hHeld
              have hHeld := hHeld'; clear hHeld'
              try simp only [Act.put, List.setIfInBounds_toArray, List.set_cons_zero, List.set_cons_succ]
              refine wpAnyH_take (i := 11) (oi := { dst := some 72, op := Op.move (Operand.tmp 71), type := 4, pos := "law.go:269", after := #[{ on := 10, ground := Ground.data }, { on := 10, ground := Ground.chain }], guard := none }) (v := ?vq11) rfl (by kernel_rfl) (by kernel_rfl) (by kernel_rfl) (fun _ _ _ h => h) (Or.inl ⟨by rfl, ?yq11⟩) (by assumption) ?tq11
              case yq11 => (intro w hSw; try dsimp only at hSw); go_simp; try with_reducible rfl
              simp only [Act.put, List.setIfInBounds_toArray, List.set_cons_zero, List.set_cons_succ]
              refine wpAnyH_take (i := 12) (oi := { dst := some 73, op := Op.move (Operand.tmp 10), type := 22, pos := "law.go:269", after := #[{ on := 11, ground := Ground.guard }], guard := some (11, false) }) (v := ?vq12) rfl (by kernel_rfl) (by kernel_rfl) (by kernel_rfl) (fun _ _ _ h => h) (Or.inl ⟨by rfl, ?yq12⟩) (by assumption) ?tq12
              case yq12 => (intro w hSw; try dsimp only at hSw); go_simp; try with_reducible rfl
              simp only [Act.put, List.setIfInBounds_toArray, List.set_cons_zero, List.set_cons_succ]
              refine wpAnyH_take (i := 13) (oi := { dst := some 74, op := Op.move (Operand.tmp 11), type := 3, pos := "law.go:269", after := #[{ on := 11, ground := Ground.guard }], guard := some (11, false) }) (v := ?vq13) rfl (by kernel_rfl) (by kernel_rfl) (by kernel_rfl) (fun _ _ _ h => h) (Or.inl ⟨by rfl, ?yq13⟩) (by assumption) ?tq13
              case yq13 => (intro w hSw; try dsimp only at hSw); go_simp; try with_reducible rfl
              simp only [Act.put, List.setIfInBounds_toArray, List.set_cons_zero, List.set_cons_succ]
              refine wpAnyH_take (i := 14) (oi := { dst := some 75, op := Op.indexAddr 22 (Operand.tmp 73) (Operand.tmp 74), type := 0, pos := "law.go:269", after := #[{ on := 12, ground := Ground.data }, { on := 13, ground := Ground.data }, { on := 11, ground := Ground.guard }], guard := some (11, false) }) (v := ?vq14) rfl (by kernel_rfl) (by kernel_rfl) (by kernel_rfl) (fun _ _ _ h => h) (Or.inl ⟨by rfl, ?yq14⟩) (by assumption) ?tq14
              case yq14 => (intro w hSw; try dsimp only at hSw); go_simp; try with_reducible rfl
              simp only [Act.put, List.setIfInBounds_toArray, List.set_cons_zero, List.set_cons_succ]
              refine wpAnyH_take (i := 15) (oi := { dst := some 76, op := Op.fieldAddr 43 (Operand.tmp 75) 0, type := 0, pos := "law.go:269", after := #[{ on := 14, ground := Ground.data }, { on := 11, ground := Ground.guard }], guard := some (11, false) }) (v := ?vq15) rfl (by kernel_rfl) (by kernel_rfl) (by kernel_rfl) (fun _ _ _ h => h) (Or.inl ⟨by rfl, ?yq15⟩) (by assumption) ?tq15
              case yq15 => (intro w hSw; try dsimp only at hSw); go_simp; try with_reducible rfl
              simp only [Act.put, List.setIfInBounds_toArray, List.set_cons_zero, List.set_cons_succ]
              refine wpAnyH_take (i := 16) (oi := { dst := some 77, op := Op.load 3 (Operand.tmp 76), type := 3, pos := "law.go:269", after := #[{ on := 15, ground := Ground.data }, { on := 11, ground := Ground.guard }], guard := some (11, false) }) (v := ?vq16) rfl (by kernel_rfl) (by kernel_rfl) (by kernel_rfl) (fun _ _ _ h => h) (Or.inl ⟨by rfl, ?yq16⟩) (by assumption) ?tq16
              case yq16 => (intro w hSw; have h0 := cell_below hSw x0); go_simp; try with_reducible rfl
              simp only [Act.put, List.setIfInBounds_toArray, List.set_cons_zero, List.set_cons_succ]
              refine wpAnyH_take (i := 17) (oi := { dst := some 78, op := Op.move (Operand.tmp 10), type := 22, pos := "law.go:269", after := #[{ on := 11, ground := Ground.guard }], guard := some (11, false) }) (v := ?vq17) rfl (by kernel_rfl) (by kernel_rfl) (by kernel_rfl) (fun _ _ _ h => h) (Or.inl ⟨by rfl, ?yq17⟩) (by assumption) ?tq17
              case yq17 => (intro w hSw; try dsimp only at hSw); go_simp; try with_reducible rfl
              simp only [Act.put, List.setIfInBounds_toArray, List.set_cons_zero, List.set_cons_succ]
              refine wpAnyH_take (i := 18) (oi := { dst := some 79, op := Op.move (Operand.tmp 14), type := 3, pos := "law.go:269", after := #[{ on := 11, ground := Ground.guard }], guard := some (11, false) }) (v := ?vq18) rfl (by kernel_rfl) (by kernel_rfl) (by kernel_rfl) (fun _ _ _ h => h) (Or.inl ⟨by rfl, ?yq18⟩) (by assumption) ?tq18
              case yq18 => (intro w hSw; try dsimp only at hSw); go_simp; try with_reducible rfl
              simp only [Act.put, List.setIfInBounds_toArray, List.set_cons_zero, List.set_cons_succ]
              refine wpAnyH_take (i := 19) (oi := { dst := some 80, op := Op.indexAddr 22 (Operand.tmp 78) (Operand.tmp 79), type := 0, pos := "law.go:269", after := #[{ on := 17, ground := Ground.data }, { on := 18, ground := Ground.data }, { on := 11, ground := Ground.guard }], guard := some (11, false) }) (v := ?vq19) rfl (by kernel_rfl) (by kernel_rfl) (by kernel_rfl) (fun _ _ _ h => h) (Or.inl ⟨by rfl, ?yq19⟩) (by assumption) ?tq19
              case yq19 => (intro w hSw; try dsimp only at hSw); go_simp; try with_reducible rfl
              simp only [Act.put, List.setIfInBounds_toArray, List.set_cons_zero, List.set_cons_succ]
              refine wpAnyH_take (i := 20) (oi := { dst := some 81, op := Op.fieldAddr 43 (Operand.tmp 80) 0, type := 0, pos := "law.go:269", after := #[{ on := 19, ground := Ground.data }, { on := 11, ground := Ground.guard }], guard := some (11, false) }) (v := ?vq20) rfl (by kernel_rfl) (by kernel_rfl) (by kernel_rfl) (fun _ _ _ h => h) (Or.inl ⟨by rfl, ?yq20⟩) (by assumption) ?tq20
              case yq20 => (intro w hSw; try dsimp only at hSw); go_simp; try with_reducible rfl
              simp only [Act.put, List.setIfInBounds_toArray, List.set_cons_zero, List.set_cons_succ]
              refine wpAnyH_take (i := 21) (oi := { dst := some 82, op := Op.load 3 (Operand.tmp 81), type := 3, pos := "law.go:269", after := #[{ on := 20, ground := Ground.data }, { on := 11, ground := Ground.guard }], guard := some (11, false) }) (v := ?vq21) rfl (by kernel_rfl) (by kernel_rfl) (by kernel_rfl) (fun _ _ _ h => h) (Or.inl ⟨by rfl, ?yq21⟩) (by assumption) ?tq21
              case yq21 => (intro w hSw; have h0 := cell_below hSw y0); go_simp; try with_reducible rfl
              simp only [Act.put, List.setIfInBounds_toArray, List.set_cons_zero, List.set_cons_succ]
              refine wpAnyH_take (i := 22) (oi := { dst := some 83, op := Op.binOp BinOp.eql 3 (Operand.tmp 77) (Operand.tmp 82) 3, type := 4, pos := "law.go:269", after := #[{ on := 16, ground := Ground.data }, { on := 21, ground := Ground.data }, { on := 11, ground := Ground.guard }], guard := some (11, false) }) (v := ?vq22) rfl (by kernel_rfl) (by kernel_rfl) (by kernel_rfl) (fun _ _ _ h => h) (Or.inl ⟨by rfl, ?yq22⟩) (by assumption) ?tq22
              case yq22 => (intro w hSw; try dsimp only at hSw); go_simp; try with_reducible rfl
              simp only [Act.put, List.setIfInBounds_toArray, List.set_cons_zero, List.set_cons_succ]
              refine wpAnyH_take (i := 23) (oi := { dst := some 84, op := Op.pick (Operand.tmp 72) (Operand.const (Value.bool true)) (Operand.tmp 83), type := 4, pos := "law.go:269", after := #[{ on := 11, ground := Ground.data }, { on := 22, ground := Ground.data }], guard := none }) (v := ?vq23) rfl (by kernel_rfl) (by kernel_rfl) (by kernel_rfl) (fun _ _ _ h => h) (Or.inl ⟨by rfl, ?yq23⟩) (by assumption) ?tq23
              case yq23 => (intro w hSw; try dsimp only at hSw); go_simp; try with_reducible rfl
              simp only [Act.put, List.setIfInBounds_toArray, List.set_cons_zero, List.set_cons_succ]
              refine wpAnyH_done (by kernel_rfl) ?_ _
              have BX := Lib.hid hHeld
              clear hHeld
              replace x2 := cell_below BX.out x2; replace y2 := cell_below BX.out y2
              clear x0 x1 x3 x4 x5 x6 y0 y1 y3 y4 y5 y6
              have BY := Lib.hid (below_step HW3.out BX.out)
              by_cases h0 : 0 < rs.length
              · obtain ⟨rb, ro, rfl, -, hz⟩ := (R5.out.below BY.out).2.2 0 h0
                simp only [Nat.add_zero] at hz
                have z0 : (0 : Int) < (rs.length : Int) := by omega
                have HZ := Lib.hid (fun (h1 : rs[0] = 1) (h2 : j2 = true) => show p2 = true from ahead_hot0 (a := ⟨j0, j1, j2, j3, j4, j5, j6⟩) (b := ⟨p0, p1, p2, p3, p4, p5, p6⟩) h0 HAf.out h1 h2)
                clear HAf HAc
                generalize rs[0] = z at *
                by_cases hz1 : z = 1
                · subst hz1
                  cases j2 with
                  | false =>
                    go_wp2_with fail
                    go_roundw
                    case rel => exact ⟨k2 + 1, hlt3, by go_num, BY⟩
                    case measure => simp [intOf]; omega
                  | true =>
                    have hp : p2 = true := HZ.out rfl rfl
                    subst hp
                    go_wp2_with fail
                    go_roundw
                    case rel => exact ⟨k2 + 1, hlt3, by go_num, BY⟩
                    case measure => simp [intOf]; omega
                · have hzb : (z == 1) = false := by simp [hz1]
                  go_wp2_with fail
                  go_roundw
                  case rel => exact ⟨k2 + 1, hlt3, by go_num, BY⟩
                  case measure => simp [intOf]; omega
              · have z0 : ¬ (0 : Int) < (rs.length : Int) := by omega
                clear HAf HAc
                go_wp2_with fail
                go_roundw
                case rel => exact ⟨k2 + 1, hlt3, by go_num, BY⟩
                case measure => simp [intOf]; omega
            · have k1 : ¬ (k2 : Int) < (i : Int) := by omega
              go_wp2_with fail
              go_roundw
              case rel => exact ⟨i + 1, hlt, by go_num, HW3⟩
              case measure => simp [intOf]; omega
    · have i1 : ¬ (i : Int) < (L.length : Int) := by omega
      have BW := Lib.hid (below_step B5.out HW.out)
      go_wp2_with fail
      go_ret
      exact ⟨rfl, BW.out⟩
end Go.Proofs.Ytjdhjlhcdpekbaa
