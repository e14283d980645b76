/-
  The walk of FlowParts.
-/
import Derived.Test.YtblnfcffalaeaaaGreatDoorFirstW
import Derived.Test.YtblnfcffalaeaaaGreatDoorRefW
import Derived.Test.YtblnfcffalaeaaaGreatDoorFlP
import Derived.Deep.RegionLaw
namespace Go.Proofs.YtblnfcffalaeaaaGreatDoor
open Go.RowKit Go.Shelf

theorem WinsA.take {w : World} {a : Option Addr} {c : Nat} {L : List Fl.Win} (h : WinsA w a c L) (m : Nat) (hm : m ≤ L.length) : WinsA w a c (L.take m) := by
  refine ⟨by rw [List.length_take]; have := h.1; omega, h.2.1, fun i hi => ?_⟩
  rw [List.length_take] at hi
  obtain ⟨b, off, e, hb, hc⟩ := h.2.2 i (by omega)
  exact ⟨b, off, e, hb, by rw [List.getElem_take]; exact hc⟩
theorem parts_len {r : FlowP} (hv : Fl.valid r.f = true) : (Fl.bodies r.f).length = 1 + r.P.length + r.W.length ∧ r.P.length ≤ 40 := by
  have h1 := Fl.bodies_length r.f
  have h2 := (Fl.valid_iff.1 hv).len
  have e1 : r.f.steps.length = r.P.length := by simp [FlowP.f]
  have e2 : r.f.wins.length = r.W.length := rfl
  rw [e1] at h1 h2; rw [e2] at h1
  exact ⟨h1, h2⟩
theorem parts_steps {r : FlowP} (hv : Fl.valid r.f = true) (i : Nat) (h : i < r.P.length) : (Fl.bodies r.f)[1 + i]? = some (Lib.join (Fl.stepWords i r.P[i].s) [32]) ∧ Fl.StepOk 40 r.P[i].s := by
  have e1 : r.f.steps.length = r.P.length := by simp [FlowP.f]
  have hi : i < r.f.steps.length := by omega
  have h1 := Fl.bodies_step r.f i hi
  have h2 : r.f.steps[i] = r.P[i].s := by simp [FlowP.f, stepsOf]
  have h3 := (Fl.valid_iff.1 hv).steps _ (List.getElem_mem hi)
  have h4 := (Fl.valid_iff.1 hv).len
  rw [h2] at h1 h3
  exact ⟨h1, h3.mono (by omega)⟩
theorem parts_wins {r : FlowP} (hv : Fl.valid r.f = true) (i : Nat) (h : i < r.W.length) : (Fl.bodies r.f)[1 + r.P.length + i]? = some (Lib.join (Fl.winWords r.W[i]) [32]) ∧ Fl.vWin 40 r.W[i] = true := by
  have e1 : r.f.steps.length = r.P.length := by simp [FlowP.f]
  have h1 := Fl.bodies_win r.f i h
  have h3 := Fl.vWinsFrom_all (Fl.valid_iff.1 hv).wins _ (List.getElem_mem (l := r.f.wins) h)
  have h4 := (Fl.valid_iff.1 hv).len
  rw [e1] at h1
  exact ⟨h1, Fl.vWin_mono (by omega) h3⟩
theorem row_all {w : World} {la : Option Addr} {lc : Nat} {D : List (List UInt8)} (h : StrA w la lc (D.map bs)) (h0 : 0 < D.length) :
    ∃ b off, la = some ⟨b, off, none⟩ ∧ b < w.heap.size ∧ ∀ i s, D[i]? = some s → w.cell? ⟨b, off + i, none⟩ = some (.string (bs s)) := by
  obtain ⟨b, off, e, hb, _⟩ := h.2.2 0 (by simpa using h0)
  refine ⟨b, off, e, hb, fun i s hi => ?_⟩
  obtain ⟨hlt, rfl⟩ := List.getElem?_eq_some_iff.1 hi
  obtain ⟨b', off', e', _, hc⟩ := h.2.2 i (by simpa using hlt)
  rw [e] at e'; injection e' with e'; injection e' with e1 e2; subst e1; subst e2
  rw [hc, List.getElem_map]
set_option maxRecDepth 100000 in
set_option maxHeartbeats 4000000 in
theorem parts_any (xa : Option Addr) (xc : Nat) (X : List (List Int)) (ya : Option Addr) (yc : Nat) (Y : List (List Int)) (left : Int) (w : World) (ht : ∃ a, Tab a w) (hX : ArrsA 6 w xa xc X) (hY : ArrsA 3 w ya yc Y)
    (l0 : -9223372036854775808 ≤ left) (u0 : left ≤ 9223372036854775807) :
    Calls Tryz.prog 10 #[.slice xa X.length xc, .slice ya Y.length yc, .int .i64 left] w fun e w' => e = .returned (.bool true) ∧ Below w.heap.size w w' := by
  obtain ⟨a, ht⟩ := ht
  have HT := Lib.hid ht; have HX := Lib.hid hX; have HY := Lib.hid hY
  clear ht hX hY
  go_enter Tryz.func10, Tryz.ntmps10
  go_wp2_with fail
  refine (sane_any _ a HT.out).mono ?_; rintro e w2 ⟨rfl, g2⟩
  have G2 := Lib.hid g2; clear g2
  go_wp2_with fail
  refine (Make_any X xa xc Y ya yc w2 (HX.out.below G2.out) (HY.out.below G2.out)).mono ?_
  rintro e w3 ⟨q, rfl, hq, hqv, -, hW4, g3⟩
  have G3 := Lib.hid (below_step G2.out g3)
  have QA := Lib.hid hq; have QV := Lib.hid hqv
  clear g3 hq hqv G2
  go_upto_region 3 with (fail)
  have FA : Hid ((w3.alloc (flowBox q)).heap[w3.heap.size]? = some (flowBox q)) := Lib.hid (heap_alloc_new _ _)
  have g4 := below_new w3 (flowBox q)
  have QA4 := Lib.hid (QA.out.below g4)
  have G4 := Lib.hid (below_step G3.out g4)
  have B4 := Lib.hid g4
  clear g4
  generalize w3.alloc (flowBox q) = w4 at *
  have PK := Lib.hid (fun w => pick_any left ((q.W.length : Int) + 1) w ⟨l0, u0⟩ (by omega))
  obtain ⟨q0, q1⟩ := pickZ_bd (c := left) (n := (q.W.length : Int) + 1) (by omega)
  obtain ⟨m, hm⟩ := Int.eq_ofNat_of_zero_le q0
  rw [hm] at PK q1
  have hmW : m ≤ q.W.length := by omega
  clear hm q0 q1
  have a3 := block_cell FA.out 3 _ rfl
  have z3 := box_fz FA.out 3
  have hlF := lt_of_block FA.out
  have e1 : IntKind.i64.wrap ((q.W.length : Int) + 1) = (q.W.length : Int) + 1 := IntWalk.i64_in _ (by omega)
  have hcap : m ≤ q.wc := Nat.le_trans hmW QA4.out.2.1
  obtain ⟨lo, hi, sa, sc, P, va, vc, Ws⟩ := q
  simp only at hmW e1 a3 PK hcap hW4
  go_cut [8] (fun s8 wx => s8 = .pointer (some ⟨w3.heap.size, 0, none⟩) ∧ Hid (wx = (w4.setCell ⟨w3.heap.size, 3, none⟩ (.slice va m vc)).drew))
  case first =>
    cases va with
    | none =>
      go_region_law (go_simp; go_at_call 23; (with_reducible refine (PK.out _).mono ?_); rintro _ _ ⟨rfl, rfl⟩)
      all_goals
        go_wp2_with fail
        go_meet
        exact ⟨rfl, Lib.hid rfl⟩
    | some wad =>
      go_region_law (go_simp; go_at_call 23; (with_reducible refine (PK.out _).mono ?_); rintro _ _ ⟨rfl, rfl⟩)
      all_goals
        go_wp2_with fail
        go_meet
        exact ⟨rfl, Lib.hid rfl⟩
  case rest =>
    obtain ⟨rfl, HC⟩ := hcut
    have B5 : Below w3.heap.size w3 wc := by rw [HC.out]; exact (B4.out.setCell (p := ⟨w3.heap.size, 3, none⟩) (Nat.le_refl _) _).drew
    have RB : Hid (FlowP.ok wc ⟨lo, hi, sa, sc, P, va, vc, Ws.take m⟩) := Lib.hid ⟨(QA.out.1).below B5, (QA.out.2.below B5).take m hmW⟩
    have FB : Hid (wc.heap[w3.heap.size]? = some (flowBox ⟨lo, hi, sa, sc, P, va, vc, Ws.take m⟩)) := Lib.hid (by
      rw [HC.out]
      show (w4.setCell ⟨w3.heap.size, 3, none⟩ (.slice va m vc)).heap[w3.heap.size]? = _
      rw [block_set FA.out]; simp [flowBox, Nat.min_eq_left hmW])
    have G5 := Lib.hid (below_step G3.out B5)
    have hv : Fl.valid (FlowP.f ⟨lo, hi, sa, sc, P, va, vc, Ws.take m⟩) = true := Fl.valid_take QV.out m
    have hmn : (Ws.take m).length = m := by rw [List.length_take]; exact Nat.min_eq_left hmW
    have hm4 : (Ws.take m).length ≤ 4 := by omega
    clear HC B5 B4 FA QA QA4 G3 G4 QV PK a3 z3 e1 hcap hW4 hlF hmW
    generalize w3.heap.size = F at *
    generalize Ws.take m = V at *
    subst hmn
    have HDs := Lib.hid (parts_steps hv)
    have HDw := Lib.hid (parts_wins hv)
    obtain ⟨hDl, hP40⟩ := parts_len hv
    have e1 : printS (FlowP.f ⟨lo, hi, sa, sc, P, va, vc, V⟩) = _ := if_pos hv
    have e2 : printE (FlowP.f ⟨lo, hi, sa, sc, P, va, vc, V⟩) = 0 := if_pos hv
    have hTL := Fl.text_short hv
    have hLn := Fl.lines_text (Fl.valid_iff.1 hv)
    have hcat := Fl.text_cat (FlowP.f ⟨lo, hi, sa, sc, P, va, vc, V⟩)
    have PR := fun w ht hq => Print_any ⟨lo, hi, sa, sc, P, va, vc, V⟩ w a ht hq
    have VR := fun w hq => Valid_any ⟨lo, hi, sa, sc, P, va, vc, V⟩ w hq
    rw [hv] at VR
    rw [e1, e2] at PR
    rw [hcat] at PR hLn hTL
    have HPR := Lib.hid PR; have HVR := Lib.hid VR
    simp only at HDs HDw hDl
    clear PR VR hv e1 e2 hcat
    generalize Fl.bodies (FlowP.f ⟨lo, hi, sa, sc, P, va, vc, V⟩) = D at *
    have HLn := Lib.hid hLn
    have a0 := block_cell FB.out 0 _ rfl
    have a1 := block_cell FB.out 1 _ rfl
    have a2 := block_cell FB.out 2 _ rfl
    have a3 := block_cell FB.out 3 _ rfl
    clear hLn FB
    generalize wc = w5 at *
    go_wp2_with fail
    refine (HPR.out w5 (HT.out.below G5.out) RB.out).mono ?_
    rintro e w6 ⟨rfl, g6⟩
    have a0 := cell_below g6 a0; have a1 := cell_below g6 a1; have a2 := cell_below g6 a2; have a3 := cell_below g6 a3
    have RB6 := Lib.hid (RB.out.below g6)
    have G6 := Lib.hid (below_step G5.out g6)
    clear g6 HPR RB G5
    go_wp2_with fail
    refine (refLines_any (Fl.cat D) w6 (by omega)).mono ?_
    rintro e w7 ⟨la, lc, rfl, hrow, g7⟩
    have a0 := cell_below g7 a0; have a1 := cell_below g7 a1; have a2 := cell_below g7 a2; have a3 := cell_below g7 a3
    have RB7 := Lib.hid (RB6.out.below g7)
    have G7 := Lib.hid (below_step G6.out g7)
    have hlen : (Fl.lines (Fl.cat D)).length = P.length + V.length + 2 := by rw [HLn.out]; simp; omega
    rw [HLn.out] at hrow
    obtain ⟨lb, lf, hla, hlb, hcell⟩ := row_all (strA_own rfl hrow) (by simp)
    subst hla
    rw [hlen]
    have HCE := Lib.hid hcell
    clear g7 RB6 G6 hrow hcell hlen HLn
    have cl : w7.cell? ⟨lb, lf + (2 + P.length + V.length - 1), none⟩ = some (.string (bs [])) := HCE.out _ _ (by rw [show 2 + P.length + V.length - 1 = D.length by omega, List.getElem?_append_right (Nat.le_refl _), Nat.sub_self]; rfl)
    have e1 : IntKind.i64.wrap (2 + (P.length : Int)) = 2 + (P.length : Int) := IntWalk.i64_in _ (by omega)
    have e2 : IntKind.i64.wrap (2 + (P.length : Int) + (V.length : Int)) = 2 + (P.length : Int) + (V.length : Int) := IntWalk.i64_in _ (by omega)
    have e3 : ((((P.length : Int) + (V.length : Int) + 2)) == 2 + (P.length : Int) + (V.length : Int)) = true := by rw [beq_iff_eq]; omega
    have e4 : IntKind.i64.wrap ((P.length : Int) + (V.length : Int) + 2 - 1) = (P.length : Int) + (V.length : Int) + 1 := by rw [show (P.length : Int) + (V.length : Int) + 2 - 1 = (P.length : Int) + (V.length : Int) + 1 by omega]; exact IntWalk.i64_in _ (by omega)
    go_wp2_with fail
    clear cl e1 e2 e3 e4
    go_loopg [12] (P.length) (fun g i wr => ∃ k : Nat, k ≤ P.length ∧ g = P.length - k ∧ i = .int .i64 (k : Int) ∧ Hid (Below w7.heap.size w7 wr))
    case atStart => exact ⟨0, by omega, by omega, rfl, Lib.hid (Below.refl _ _)⟩
    case round =>
      obtain ⟨k, hk, rfl, rfl, HW⟩ := hrel
      have k2 := cell_below HW.out a2
      by_cases hlt : k < P.length
      · obtain ⟨b, off, e5, hb, hAt, hok⟩ := RB7.out.1.2.2 k hlt
        simp only at e5
        obtain ⟨hd, hs⟩ := HDs.out k hlt
        have cl := HCE.out (1 + k) _ (by rw [List.getElem?_append_left (by omega)]; exact hd)
        have HSL := Lib.hid (fun w hp => refStepLine_any (k : Int) (P[k]'hlt) w hp hs (by omega))
        have HOK := Lib.hid hok
        clear hd hs hok
        generalize Lib.join (Fl.stepWords (k : Int) P[k].s) [32] = U at *
        generalize P[k] = p at *
        obtain ⟨⟨rc, tl, mn, mx, nx, bk, lm⟩, ta, tc, na, nc⟩ := p
        obtain ⟨c0, c1, c2, c3, c4, c5, c6⟩ := hAt
        subst e5
        simp only at c0 c1 c2 c3 c4 c5 c6
        have e1 : IntKind.i64.wrap (1 + (k : Int)) = 1 + (k : Int) := IntWalk.i64_in _ (by omega)
        have e9 : IntKind.i64.wrap ((k : Int) + 1) = (k : Int) + 1 := IntWalk.i64_in _ (by omega)
        have hi1 : (0 : Int) ≤ 1 + (k : Int) := by omega
        have hi2 : 1 + (k : Int) < 2 + (P.length : Int) + (V.length : Int) := by omega
        have hi3 : (1 + (k : Int)).toNat = 1 + k := by omega
        go_upto_region 11 with (fail)
        refine wp_region_held_drew (S := (fun v => Below w7.heap.size w7 v)) (by kernel_rfl) (HW.out.drew) (fun hHeld => ?_)
        refine wpAnyH_take (i := 0) (oi := { dst := some 66, op := Op.move (Operand.tmp 11), type := 40, pos := "law.go:274", after := #[], guard := none }) (v := ?vp_0) rfl (by kernel_rfl) (by kernel_rfl) (by kernel_rfl) (fun _ _ _ h => h) (Or.inl ⟨by rfl, ?yp_0⟩) (by assumption) ?tp_0
        case yp_0 => (intro w hSw; try dsimp only at hSw); go_simp; try with_reducible rfl
        simp only [Act.put, List.setIfInBounds_toArray, List.set_cons_zero, List.set_cons_succ]
        refine wpAnyH_take (i := 1) (oi := { dst := some 67, op := Op.move (Operand.tmp 12), type := 3, pos := "law.go:274", after := #[], guard := none }) (v := ?vp_1) rfl (by kernel_rfl) (by kernel_rfl) (by kernel_rfl) (fun _ _ _ h => h) (Or.inl ⟨by rfl, ?yp_1⟩) (by assumption) ?tp_1
        case yp_1 => (intro w hSw; try dsimp only at hSw); go_simp; try with_reducible rfl
        simp only [Act.put, List.setIfInBounds_toArray, List.set_cons_zero, List.set_cons_succ]
        refine wpAnyH_take (i := 2) (oi := { dst := some 68, op := Op.binOp BinOp.add 3 (Operand.const (Value.int IntKind.i64 1)) (Operand.tmp 67) 3, type := 3, pos := "law.go:274", after := #[{ on := 1, ground := Ground.data }], guard := none }) (v := ?vp_2) rfl (by kernel_rfl) (by kernel_rfl) (by kernel_rfl) (fun _ _ _ h => h) (Or.inl ⟨by rfl, ?yp_2⟩) (by assumption) ?tp_2
        case yp_2 => (intro w hSw; try dsimp only at hSw); go_simp; try with_reducible rfl
        simp only [Act.put, List.setIfInBounds_toArray, List.set_cons_zero, List.set_cons_succ]
        refine wpAnyH_take (i := 3) (oi := { dst := some 69, op := Op.indexAddr 40 (Operand.tmp 66) (Operand.tmp 68), type := 0, pos := "law.go:274", after := #[{ on := 0, ground := Ground.data }, { on := 2, ground := Ground.data }], guard := none }) (v := ?vp_3) rfl (by kernel_rfl) (by kernel_rfl) (by kernel_rfl) (fun _ _ _ h => h) (Or.inl ⟨by rfl, ?yp_3⟩) (by assumption) ?tp_3
        case yp_3 => (intro w hSw; try dsimp only at hSw); go_simp; try with_reducible rfl
        simp only [Act.put, List.setIfInBounds_toArray, List.set_cons_zero, List.set_cons_succ]
        refine wpAnyH_take (i := 4) (oi := { dst := some 70, op := Op.load 9 (Operand.tmp 69), type := 9, pos := "law.go:274", after := #[{ on := 3, ground := Ground.data }], guard := none }) (v := ?vp_4) rfl (by kernel_rfl) (by kernel_rfl) (by kernel_rfl) (fun _ _ _ h => h) (Or.inl ⟨by rfl, ?yp_4⟩) (by assumption) ?tp_4
        case yp_4 => (intro w hSw; have h0 := cell_below hSw cl); go_simp; try with_reducible rfl
        simp only [Act.put, List.setIfInBounds_toArray, List.set_cons_zero, List.set_cons_succ]
        refine wpAnyH_take (i := 5) (oi := { dst := some 71, op := Op.move (Operand.tmp 12), type := 3, pos := "law.go:274", after := #[], guard := none }) (v := ?vp_5) rfl (by kernel_rfl) (by kernel_rfl) (by kernel_rfl) (fun _ _ _ h => h) (Or.inl ⟨by rfl, ?yp_5⟩) (by assumption) ?tp_5
        case yp_5 => (intro w hSw; try dsimp only at hSw); go_simp; try with_reducible rfl
        simp only [Act.put, List.setIfInBounds_toArray, List.set_cons_zero, List.set_cons_succ]
        refine wpAnyH_take (i := 6) (oi := { dst := some 72, op := Op.fieldAddr 25 (Operand.tmp 8) 2, type := 0, pos := "law.go:274", after := #[], guard := none }) (v := ?vp_6) rfl (by kernel_rfl) (by kernel_rfl) (by kernel_rfl) (fun _ _ _ h => h) (Or.inl ⟨by rfl, ?yp_6⟩) (by assumption) ?tp_6
        case yp_6 => (intro w hSw; try dsimp only at hSw); go_simp; try with_reducible rfl
        simp only [Act.put, List.setIfInBounds_toArray, List.set_cons_zero, List.set_cons_succ]
        refine wpAnyH_take (i := 7) (oi := { dst := some 73, op := Op.load 22 (Operand.tmp 72), type := 22, pos := "law.go:274", after := #[{ on := 6, ground := Ground.data }], guard := none }) (v := ?vp_7) rfl (by kernel_rfl) (by kernel_rfl) (by kernel_rfl) (fun _ _ _ h => h) (Or.inl ⟨by rfl, ?yp_7⟩) (by assumption) ?tp_7
        case yp_7 => (intro w hSw; have h0 := cell_below hSw a2); go_simp; try with_reducible rfl
        simp only [Act.put, List.setIfInBounds_toArray, List.set_cons_zero, List.set_cons_succ]
        refine wpAnyH_take (i := 8) (oi := { dst := some 74, op := Op.move (Operand.tmp 12), type := 3, pos := "law.go:274", after := #[], guard := none }) (v := ?vp_8) rfl (by kernel_rfl) (by kernel_rfl) (by kernel_rfl) (fun _ _ _ h => h) (Or.inl ⟨by rfl, ?yp_8⟩) (by assumption) ?tp_8
        case yp_8 => (intro w hSw; try dsimp only at hSw); go_simp; try with_reducible rfl
        simp only [Act.put, List.setIfInBounds_toArray, List.set_cons_zero, List.set_cons_succ]
        refine wpAnyH_take (i := 9) (oi := { dst := some 75, op := Op.indexAddr 22 (Operand.tmp 73) (Operand.tmp 74), type := 0, pos := "law.go:274", after := #[{ on := 7, ground := Ground.data }, { on := 8, ground := Ground.data }], guard := none }) (v := ?vp_9) rfl (by kernel_rfl) (by kernel_rfl) (by kernel_rfl) (fun _ _ _ h => h) (Or.inl ⟨by rfl, ?yp_9⟩) (by assumption) ?tp_9
        case yp_9 => (intro w hSw; try dsimp only at hSw); go_simp; try with_reducible rfl
        simp only [Act.put, List.setIfInBounds_toArray, List.set_cons_zero, List.set_cons_succ]
        refine wpAnyH_take (i := 10) (oi := { dst := some 76, op := Op.load 55 (Operand.tmp 75), type := 55, pos := "law.go:274", after := #[{ on := 9, ground := Ground.data }], guard := none }) (v := ?vp_10) rfl (by kernel_rfl) (by kernel_rfl) (by kernel_rfl) (fun _ _ _ h => h) (Or.inl ⟨by rfl, ?yp_10⟩) (by assumption) ?tp_10
        case yp_10 => (intro w hSw; have h0 := cell_below hSw c0; have h1 := cell_below hSw c1; have h2 := cell_below hSw c2; have h3 := cell_below hSw c3; have h4 := cell_below hSw c4; have h5 := cell_below hSw c5; have h6 := cell_below hSw c6); go_simp; try with_reducible rfl
        simp only [Act.put, List.setIfInBounds_toArray, List.set_cons_zero, List.set_cons_succ]
        refine wpAnyH_ready (rs := [11]) (by kernel_rfl) (by simp) ?_
        refine AllReadyH.cons (o := { dst := some 77, op := Op.call { callee := Callee.value (Operand.func 25), args := #[Operand.tmp 71, Operand.tmp 76], argTypes := #[3, 55] }, type := 9, pos := "law.go:274", after := #[{ on := 5, ground := Ground.data }, { on := 10, ground := Ground.data }], guard := none }) rfl (fun K hK => ?_) AllReadyH.nil
        go_simp
        refine (HSL.out _ (HOK.out.below hHeld)).mono ?_; rintro e wz ⟨rfl, gz⟩
        have hSz := below_step hHeld gz
        clear gz
        refine hK.out _ _ (hSz) (fun hHeld' => ?_)
        clear hK K hHeld
        have hHeld := hHeld'; clear hHeld'
        try simp only [Act.put, List.setIfInBounds_toArray, List.set_cons_zero, List.set_cons_succ]
        refine wpAnyH_take (i := 12) (oi := { dst := some 78, op := Op.binOp BinOp.neq 9 (Operand.tmp 70) (Operand.tmp 77) 9, type := 4, pos := "law.go:274", after := #[{ on := 4, ground := Ground.data }, { on := 11, ground := Ground.data }], guard := none }) (v := ?vp_12) rfl (by kernel_rfl) (by kernel_rfl) (by kernel_rfl) (fun _ _ _ h => h) (Or.inl ⟨by rfl, ?yp_12⟩) (by assumption) ?tp_12
        case yp_12 => (intro w hSw; try dsimp only at hSw); go_simp; try with_reducible rfl
        simp only [Act.put, List.setIfInBounds_toArray, List.set_cons_zero, List.set_cons_succ]
        refine wpAnyH_done (by kernel_rfl) ?_ _
        have HS1 := Lib.hid hHeld
        clear hHeld c0 c1 c2 c3 c4 c5 c6 cl k2
        go_wp2_with fail
        go_roundg (P.length - (k + 1))
        case rel => exact ⟨k + 1, hlt, rfl, by go_num, HS1⟩
        case measure => omega
      · obtain rfl : k = P.length := by omega
        have HW8 := HW
        go_wp2_with fail
        clear k2
        go_loopg [13] (V.length) (fun g i wq => ∃ j : Nat, j ≤ V.length ∧ g = V.length - j ∧ i = .int .i64 (j : Int) ∧ Hid (Below w7.heap.size w7 wq))
        case atStart => exact ⟨0, by omega, by omega, rfl, HW8⟩
        case round =>
          obtain ⟨j, hj, rfl, rfl, HQ⟩ := hrel
          have b0 := cell_below HQ.out a0; have b1 := cell_below HQ.out a1; have b2 := cell_below HQ.out a2; have b3 := cell_below HQ.out a3
          by_cases hlt2 : j < V.length
          · obtain ⟨b, off, e5, hb, hAt⟩ := RB7.out.2.2.2 j hlt2
            simp only at e5
            obtain ⟨hd, hs⟩ := HDw.out j hlt2
            have cl := HCE.out (1 + P.length + j) _ (by rw [List.getElem?_append_left (by omega)]; exact hd)
            have HSL := Lib.hid (fun w => refWindowLine_any (V[j]'hlt2) w hs)
            clear hd hs
            generalize Lib.join (Fl.winWords V[j]) [32] = U at *
            generalize V[j] = v at *
            obtain ⟨src, dst, limit⟩ := v
            obtain ⟨c0, c1, c2⟩ := hAt
            subst e5
            simp only at c0 c1 c2
            have e1 : IntKind.i64.wrap (1 + (P.length : Int)) = 1 + (P.length : Int) := IntWalk.i64_in _ (by omega)
            have e2 : IntKind.i64.wrap (1 + (P.length : Int) + (j : Int)) = 1 + (P.length : Int) + (j : Int) := IntWalk.i64_in _ (by omega)
            have e9 : IntKind.i64.wrap ((j : Int) + 1) = (j : Int) + 1 := IntWalk.i64_in _ (by omega)
            have hi1 : (0 : Int) ≤ 1 + (P.length : Int) + (j : Int) := by omega
            have hi2 : 1 + (P.length : Int) + (j : Int) < 2 + (P.length : Int) + (V.length : Int) := by omega
            have hi3 : (1 + (P.length : Int) + (j : Int)).toNat = 1 + P.length + j := by omega
            go_upto_region 16 with (fail)
            refine wp_region_held_drew (S := (fun v => Below w7.heap.size w7 v)) (by kernel_rfl) (HQ.out.drew) (fun hHeld => ?_)
            refine wpAnyH_take (i := 0) (oi := { dst := some 86, op := Op.move (Operand.tmp 11), type := 40, pos := "law.go:279", after := #[], guard := none }) (v := ?vq_0) rfl (by kernel_rfl) (by kernel_rfl) (by kernel_rfl) (fun _ _ _ h => h) (Or.inl ⟨by rfl, ?yq_0⟩) (by assumption) ?tq_0
            case yq_0 => (intro w hSw; try dsimp only at hSw); go_simp; try with_reducible rfl
            simp only [Act.put, List.setIfInBounds_toArray, List.set_cons_zero, List.set_cons_succ]
            refine wpAnyH_take (i := 1) (oi := { dst := some 87, op := Op.fieldAddr 25 (Operand.tmp 8) 2, type := 0, pos := "law.go:279", after := #[], guard := none }) (v := ?vq_1) rfl (by kernel_rfl) (by kernel_rfl) (by kernel_rfl) (fun _ _ _ h => h) (Or.inl ⟨by rfl, ?yq_1⟩) (by assumption) ?tq_1
            case yq_1 => (intro w hSw; try dsimp only at hSw); go_simp; try with_reducible rfl
            simp only [Act.put, List.setIfInBounds_toArray, List.set_cons_zero, List.set_cons_succ]
            refine wpAnyH_take (i := 2) (oi := { dst := some 88, op := Op.load 22 (Operand.tmp 87), type := 22, pos := "law.go:279", after := #[{ on := 1, ground := Ground.data }], guard := none }) (v := ?vq_2) rfl (by kernel_rfl) (by kernel_rfl) (by kernel_rfl) (fun _ _ _ h => h) (Or.inl ⟨by rfl, ?yq_2⟩) (by assumption) ?tq_2
            case yq_2 => (intro w hSw; have h0 := cell_below hSw a2); go_simp; try with_reducible rfl
            simp only [Act.put, List.setIfInBounds_toArray, List.set_cons_zero, List.set_cons_succ]
            refine wpAnyH_take (i := 3) (oi := { dst := some 89, op := Op.call { callee := Callee.builtin Go.Builtin.len, args := #[Operand.tmp 88], argTypes := #[22] }, type := 3, pos := "law.go:279", after := #[{ on := 2, ground := Ground.data }], guard := none }) (v := ?vq_3) rfl (by kernel_rfl) (by kernel_rfl) (by kernel_rfl) (fun _ _ _ h => h) (Or.inl ⟨by rfl, ?yq_3⟩) (by assumption) ?tq_3
            case yq_3 => (intro w hSw; try dsimp only at hSw); go_simp; try with_reducible rfl
            simp only [Act.put, List.setIfInBounds_toArray, List.set_cons_zero, List.set_cons_succ]
            refine wpAnyH_take (i := 4) (oi := { dst := some 90, op := Op.binOp BinOp.add 3 (Operand.const (Value.int IntKind.i64 1)) (Operand.tmp 89) 3, type := 3, pos := "law.go:279", after := #[{ on := 3, ground := Ground.data }], guard := none }) (v := ?vq_4) rfl (by kernel_rfl) (by kernel_rfl) (by kernel_rfl) (fun _ _ _ h => h) (Or.inl ⟨by rfl, ?yq_4⟩) (by assumption) ?tq_4
            case yq_4 => (intro w hSw; try dsimp only at hSw); go_simp; try with_reducible rfl
            simp only [Act.put, List.setIfInBounds_toArray, List.set_cons_zero, List.set_cons_succ]
            refine wpAnyH_take (i := 5) (oi := { dst := some 91, op := Op.move (Operand.tmp 13), type := 3, pos := "law.go:279", after := #[], guard := none }) (v := ?vq_5) rfl (by kernel_rfl) (by kernel_rfl) (by kernel_rfl) (fun _ _ _ h => h) (Or.inl ⟨by rfl, ?yq_5⟩) (by assumption) ?tq_5
            case yq_5 => (intro w hSw; try dsimp only at hSw); go_simp; try with_reducible rfl
            simp only [Act.put, List.setIfInBounds_toArray, List.set_cons_zero, List.set_cons_succ]
            refine wpAnyH_take (i := 6) (oi := { dst := some 92, op := Op.binOp BinOp.add 3 (Operand.tmp 90) (Operand.tmp 91) 3, type := 3, pos := "law.go:279", after := #[{ on := 4, ground := Ground.data }, { on := 5, ground := Ground.data }], guard := none }) (v := ?vq_6) rfl (by kernel_rfl) (by kernel_rfl) (by kernel_rfl) (fun _ _ _ h => h) (Or.inl ⟨by rfl, ?yq_6⟩) (by assumption) ?tq_6
            case yq_6 => (intro w hSw; try dsimp only at hSw); go_simp; try with_reducible rfl
            simp only [Act.put, List.setIfInBounds_toArray, List.set_cons_zero, List.set_cons_succ]
            refine wpAnyH_take (i := 7) (oi := { dst := some 93, op := Op.indexAddr 40 (Operand.tmp 86) (Operand.tmp 92), type := 0, pos := "law.go:279", after := #[{ on := 0, ground := Ground.data }, { on := 6, ground := Ground.data }], guard := none }) (v := ?vq_7) rfl (by kernel_rfl) (by kernel_rfl) (by kernel_rfl) (fun _ _ _ h => h) (Or.inl ⟨by rfl, ?yq_7⟩) (by assumption) ?tq_7
            case yq_7 => (intro w hSw; try dsimp only at hSw); go_simp; try with_reducible rfl
            simp only [Act.put, List.setIfInBounds_toArray, List.set_cons_zero, List.set_cons_succ]
            refine wpAnyH_take (i := 8) (oi := { dst := some 94, op := Op.load 9 (Operand.tmp 93), type := 9, pos := "law.go:279", after := #[{ on := 7, ground := Ground.data }], guard := none }) (v := ?vq_8) rfl (by kernel_rfl) (by kernel_rfl) (by kernel_rfl) (fun _ _ _ h => h) (Or.inl ⟨by rfl, ?yq_8⟩) (by assumption) ?tq_8
            case yq_8 => (intro w hSw; have h0 := cell_below hSw cl); go_simp; try with_reducible rfl
            simp only [Act.put, List.setIfInBounds_toArray, List.set_cons_zero, List.set_cons_succ]
            refine wpAnyH_take (i := 9) (oi := { dst := some 95, op := Op.fieldAddr 25 (Operand.tmp 8) 3, type := 0, pos := "law.go:279", after := #[], guard := none }) (v := ?vq_9) rfl (by kernel_rfl) (by kernel_rfl) (by kernel_rfl) (fun _ _ _ h => h) (Or.inl ⟨by rfl, ?yq_9⟩) (by assumption) ?tq_9
            case yq_9 => (intro w hSw; try dsimp only at hSw); go_simp; try with_reducible rfl
            simp only [Act.put, List.setIfInBounds_toArray, List.set_cons_zero, List.set_cons_succ]
            refine wpAnyH_take (i := 10) (oi := { dst := some 96, op := Op.load 23 (Operand.tmp 95), type := 23, pos := "law.go:279", after := #[{ on := 9, ground := Ground.data }], guard := none }) (v := ?vq_10) rfl (by kernel_rfl) (by kernel_rfl) (by kernel_rfl) (fun _ _ _ h => h) (Or.inl ⟨by rfl, ?yq_10⟩) (by assumption) ?tq_10
            case yq_10 => (intro w hSw; have h0 := cell_below hSw a3); go_simp; try with_reducible rfl
            simp only [Act.put, List.setIfInBounds_toArray, List.set_cons_zero, List.set_cons_succ]
            refine wpAnyH_take (i := 11) (oi := { dst := some 97, op := Op.move (Operand.tmp 13), type := 3, pos := "law.go:279", after := #[], guard := none }) (v := ?vq_11) rfl (by kernel_rfl) (by kernel_rfl) (by kernel_rfl) (fun _ _ _ h => h) (Or.inl ⟨by rfl, ?yq_11⟩) (by assumption) ?tq_11
            case yq_11 => (intro w hSw; try dsimp only at hSw); go_simp; try with_reducible rfl
            simp only [Act.put, List.setIfInBounds_toArray, List.set_cons_zero, List.set_cons_succ]
            refine wpAnyH_take (i := 12) (oi := { dst := some 98, op := Op.indexAddr 23 (Operand.tmp 96) (Operand.tmp 97), type := 0, pos := "law.go:279", after := #[{ on := 10, ground := Ground.data }, { on := 11, ground := Ground.data }], guard := none }) (v := ?vq_12) rfl (by kernel_rfl) (by kernel_rfl) (by kernel_rfl) (fun _ _ _ h => h) (Or.inl ⟨by rfl, ?yq_12⟩) (by assumption) ?tq_12
            case yq_12 => (intro w hSw; try dsimp only at hSw); go_simp; try with_reducible rfl
            simp only [Act.put, List.setIfInBounds_toArray, List.set_cons_zero, List.set_cons_succ]
            refine wpAnyH_take (i := 13) (oi := { dst := some 99, op := Op.load 58 (Operand.tmp 98), type := 58, pos := "law.go:279", after := #[{ on := 12, ground := Ground.data }], guard := none }) (v := ?vq_13) rfl (by kernel_rfl) (by kernel_rfl) (by kernel_rfl) (fun _ _ _ h => h) (Or.inl ⟨by rfl, ?yq_13⟩) (by assumption) ?tq_13
            case yq_13 => (intro w hSw; have h0 := cell_below hSw c0; have h1 := cell_below hSw c1; have h2 := cell_below hSw c2); go_simp; try with_reducible rfl
            simp only [Act.put, List.setIfInBounds_toArray, List.set_cons_zero, List.set_cons_succ]
            refine wpAnyH_ready (rs := [14]) (by kernel_rfl) (by simp) ?_
            refine AllReadyH.cons (o := { dst := some 100, op := Op.call { callee := Callee.value (Operand.func 26), args := #[Operand.tmp 99], argTypes := #[58] }, type := 9, pos := "law.go:279", after := #[{ on := 13, ground := Ground.data }], guard := none }) rfl (fun K hK => ?_) AllReadyH.nil
            go_simp
            refine (HSL.out _).mono ?_; rintro e wz ⟨rfl, gz⟩
            have hSz := below_step hHeld gz
            clear gz
            refine hK.out _ _ (hSz) (fun hHeld' => ?_)
            clear hK K hHeld
            have hHeld := hHeld'; clear hHeld'
            try simp only [Act.put, List.setIfInBounds_toArray, List.set_cons_zero, List.set_cons_succ]
            refine wpAnyH_take (i := 15) (oi := { dst := some 101, op := Op.binOp BinOp.neq 9 (Operand.tmp 94) (Operand.tmp 100) 9, type := 4, pos := "law.go:279", after := #[{ on := 8, ground := Ground.data }, { on := 14, ground := Ground.data }], guard := none }) (v := ?vq_15) rfl (by kernel_rfl) (by kernel_rfl) (by kernel_rfl) (fun _ _ _ h => h) (Or.inl ⟨by rfl, ?yq_15⟩) (by assumption) ?tq_15
            case yq_15 => (intro w hSw; try dsimp only at hSw); go_simp; try with_reducible rfl
            simp only [Act.put, List.setIfInBounds_toArray, List.set_cons_zero, List.set_cons_succ]
            refine wpAnyH_done (by kernel_rfl) ?_ _
            have HS1 := Lib.hid hHeld
            clear hHeld c0 c1 c2 cl b0 b1 b2 b3
            go_wp2_with fail
            go_roundg (V.length - (j + 1))
            case rel => exact ⟨j + 1, hlt2, rfl, by go_num, HS1⟩
            case measure => omega
          · obtain rfl : j = V.length := by omega
            go_wp2_with fail
            refine (HVR.out _ (RB7.out.below HQ.out)).mono ?_
            rintro e w9 ⟨rfl, g9⟩
            have G9 := Lib.hid (below_step G7.out (below_step HQ.out g9))
            clear g9 b0 b1 b2 b3
            go_wp2_with fail
            go_ret
            exact ⟨rfl, G9.out⟩
end Go.Proofs.YtblnfcffalaeaaaGreatDoor
