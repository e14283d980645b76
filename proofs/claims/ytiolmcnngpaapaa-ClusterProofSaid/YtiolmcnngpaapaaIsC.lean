/-
  Contracts of isCycle and Refutes.
-/
import Derived.Test.YtiolmcnngpaapaaTot
namespace Go.Proofs.Ytiolmcnngpaapaa
open Go.RowKit Go.Shelf Cy

theorem isCyc_parts (l : List Arc) (c : List Int) : isCyc l c = (within c.length 1 200 && (c.all (isNum l.length) && foll l (lastTo l c) c)) := by unfold isCyc; rw [Bool.and_assoc]
theorem foll_at {l : List Arc} {c : List Int} {k m : Nat} (hk : k < c.length) (hm : m < l.length) (e : c[k] = (m : Int)) (v : Int) : foll l v (c.drop k) = (decide (l[m].f = v) && foll l l[m].t (c.drop (k + 1))) := by
  rw [List.drop_eq_getElem_cons hk, e]
  simp only [foll, Int.toNat_natCast, List.getElem?_eq_getElem hm]
theorem lastTo_is {l : List Arc} {c : List Int} {k m : Nat} (hc : c.length = k + 1) (hm : m < l.length) (e : c[k]'(by omega) = (m : Int)) : lastTo l c = l[m].t := by
  unfold lastTo
  rw [List.getLast?_eq_getElem?, hc, Nat.add_sub_cancel, List.getElem?_eq_getElem (by omega), e]
  simp only [Int.toNat_natCast, List.getElem?_eq_getElem hm]
set_option maxRecDepth 100000 in
set_option maxHeartbeats 2000000 in
theorem isCycle_any (l : List Arc) (a : Option Addr) (cp : Nat) (c : List Int) (ca : Option Addr) (cc : Nat) (w : World) (h : ArcA w a cp l) (hC : IntsA w ca cc c) :
    Calls Try.prog 76 #[.slice a l.length cp, .slice ca c.length cc] w fun e w' => e = .returned (.bool (isCyc l c)) ∧ Below w.heap.size w w' := by
  have hl := h.len
  have hcl := hC.len
  unfold maxLen at hl hcl
  have HA := Lib.hid h; have HC := Lib.hid hC
  have HP := Lib.hid (isCyc_parts l c)
  have HW := Lib.hid (within_any (c.length : Int) 1 200)
  have HWi := Lib.hid (show within (c.length : Int) 1 200 = true → 1 ≤ c.length ∧ c.length ≤ 200 from fun h => by have := Cy.within_iff.1 h; omega)
  generalize within (c.length : Int) 1 200 = U at *
  have e1 : IntKind.i64.wrap ((l.length : Int) - 1) = (l.length : Int) - 1 := IntWalk.i64_in _ (by omega)
  clear h hC
  cases U
  · go_enter Try.func76, Try.ntmps76
    go_wp2_with fail
    refine (HW.out _).mono ?_; rintro _ w1 ⟨rfl, rfl⟩
    go_wp2_with fail
    go_ret
    exact ⟨ret_bool (by rw [HP.out]; rfl), Below.refl _ _⟩
  · obtain ⟨hc1, hc2⟩ := HWi.out rfl
    clear HWi
    go_enter Try.func76, Try.ntmps76
    go_wp2_with fail
    refine (HW.out _).mono ?_; rintro _ w1 ⟨rfl, rfl⟩
    go_wp2_with fail
    go_loop [16] (fun i => ∃ k : Nat, k ≤ c.length ∧ i = .int .i64 (k : Int) ∧ Hid (∀ i (h : i < c.length), i < k → isNum l.length c[i] = true)) (fun i => c.length - (intOf i).toNat)
    case atStart => exact ⟨0, Nat.zero_le _, rfl, Lib.hid (fun i _ hi => by omega)⟩
    case round =>
      obtain ⟨k, hk, rfl, HF⟩ := hrel
      by_cases hlt : k < c.length
      · obtain ⟨b, off, rfl, hb, hcc⟩ := HC.out.at (by omega)
        have y0 := int_cell (hcc k hlt)
        rw [Nat.mul_one] at y0
        have HN := Lib.hid (within_any c[k] 0 ((l.length : Int) - 1))
        have HS := Lib.hid (show within c[k] 0 ((l.length : Int) - 1) = true → ∀ i (h : i < c.length), i < k + 1 → isNum l.length c[i] = true from fun h i hi hik => by
          rcases Nat.lt_or_eq_of_le (Nat.le_of_lt_succ hik) with h1 | h1
          · exact HF.out i hi h1
          · subst h1; exact h)
        have HX := Lib.hid (show within c[k] 0 ((l.length : Int) - 1) = false → c.all (isNum l.length) = false from fun h => by
          rw [List.all_eq_false]; exact ⟨c[k], List.getElem_mem hlt, by unfold isNum; rw [h]; simp⟩)
        have k0 : (0 : Int) ≤ (k : Int) := by omega
        have k1 : (k : Int) < (c.length : Int) := by omega
        clear hcc
        generalize within c[k] 0 ((l.length : Int) - 1) = V at *
        generalize c[k] = x at *
        go_wp2_with fail
        refine (HN.out _).mono ?_; rintro _ w1 ⟨rfl, rfl⟩
        cases V with
        | true =>
          have HR := Lib.hid (HS.out rfl)
          go_wp2_with fail
          go_round
          case rel => exact ⟨k + 1, hlt, by go_num, HR⟩
          case measure => simp [intOf]; omega
        | false =>
          have HR := Lib.hid (HX.out rfl)
          go_wp2_with fail
          go_ret
          exact ⟨ret_bool (by rw [HP.out, HR.out]; rfl), Below.refl _ _⟩
      · have k1 : ¬ (k : Int) < (c.length : Int) := by omega
        have HAl := Lib.hid (show c.all (isNum l.length) = true from List.all_eq_true.2 fun x hx => by
          obtain ⟨i, hi, rfl⟩ := List.getElem_of_mem hx
          exact HF.out i hi (by omega))
        have HNum := Lib.hid (show ∀ i (h : i < c.length), ∃ m : Nat, m < l.length ∧ c[i] = (m : Int) from fun i hi => by
          have h1 := Cy.within_iff.1 (show within c[i] 0 ((l.length : Int) - 1) = true from HF.out i hi (by omega))
          exact ⟨c[i].toNat, by omega, by omega⟩)
        obtain ⟨n, hn⟩ : ∃ n, c.length = n + 1 := ⟨c.length - 1, by omega⟩
        obtain ⟨b, off, rfl, hb, hcc⟩ := HC.out.at (by omega)
        obtain ⟨m, hm, em⟩ := HNum.out n (by omega)
        have y0 := int_cell (hcc n (by omega))
        rw [Nat.mul_one, em] at y0
        obtain ⟨b2, off2, rfl, hb2, hc3⟩ := HA.out.at (by omega)
        obtain ⟨x0, x1, x2, x3⟩ := arc_cells (hc3 m hm)
        have HLt := Lib.hid (lastTo_is hn hm em)
        have m0 : (0 : Int) ≤ (m : Int) := by omega
        have m1 : (m : Int) < (l.length : Int) := by omega
        have n0 : (0 : Int) ≤ (n : Int) := by omega
        have n1 : ((c.length : Nat) : Int) - 1 = (n : Int) := by omega
        have n2 : IntKind.i64.wrap ((c.length : Nat) - 1 : Int) = (n : Int) := by rw [n1]; exact IntWalk.i64_in _ (by omega)
        have n3 : (n : Int) < (c.length : Int) := by omega
        have n4 : c.length - 1 = n := by omega
        have HLn := Lib.hid hn
        clear hcc hc3 em hn hk HF
        have HG1 := Lib.hid (below_new w (arcObj l[m]))
        have HO1 := Lib.hid (heap_alloc_new w (arcObj l[m]))
        generalize l[m] = P at *
        obtain ⟨pf, pt, pg, pq⟩ := P
        simp only at x0 x1 x2 x3
        go_wp2_with fail
        go_loopw [38] (fun i wr => ∃ (k : Nat) (P : Arc), k ≤ c.length ∧ i = .int .i64 (k : Int) ∧ Hid (foll l P.t (c.drop k) = foll l (lastTo l c) c) ∧ Hid (wr.heap[w.heap.size]? = some (arcObj P)) ∧ Hid (Below w.heap.size w wr)) (fun i _ => c.length - (intOf i).toNat)
        case atStart => exact ⟨0, ⟨pf, pt, pg, pq⟩, Nat.zero_le _, rfl, Lib.hid (by rw [HLt.out]; rfl), HO1, HG1⟩
        case round =>
          clear x0 x1 x2 x3 y0 HO1 HG1 HLt
          obtain ⟨k, P, hk, rfl, HF, HO, HG⟩ := hrel
          obtain ⟨qf, qt, qg, qq⟩ := P
          have p0 := box_cell HO.out 0 _ rfl; have p1 := box_cell HO.out 1 _ rfl; have p2 := box_cell HO.out 2 _ rfl; have p3 := box_cell HO.out 3 _ rfl
          have z0 := box_fz HO.out 0; have z1 := box_fz HO.out 1; have z2 := box_fz HO.out 2; have z3 := box_fz HO.out 3
          by_cases hlt : k < c.length
          · obtain ⟨i, hi, ei⟩ := HNum.out k hlt
            obtain ⟨b, off, hx, hb, hcc⟩ := (HC.out.below HG.out).at (by omega)
            have y0 := int_cell (hcc k hlt)
            rw [Nat.mul_one, ei] at y0
            obtain ⟨b2, off2, hx2, hb2, hc3⟩ := (HA.out.below HG.out).at (by omega)
            obtain ⟨x0, x1, x2, x3⟩ := arc_cells (hc3 i hi)
            injection hx with hx; injection hx with hx hy; subst hx; subst hy
            injection hx2 with hx2; injection hx2 with hx2 hy2; subst hx2; subst hy2
            have HS := Lib.hid (foll_at hlt hi ei qt)
            have i0 : (0 : Int) ≤ (i : Int) := by omega
            have i1 : (i : Int) < (l.length : Int) := by omega
            have k0 : (0 : Int) ≤ (k : Int) := by omega
            have k1 : (k : Int) < (c.length : Int) := by omega
            clear hcc hc3 ei
            generalize l[i] = X at *
            obtain ⟨xf, xt, xg, xq⟩ := X
            simp only at x0 x1 x2 x3
            by_cases he : qt = xf
            · subst he
              have hq : (qt != qt) = false := by simp
              have HF2 := Lib.hid (show foll l xt (c.drop (k + 1)) = foll l (lastTo l c) c from by rw [← HF.out, HS.out]; simp)
              go_wp2_with fail
              go_quiet (fail)
              go_wp2_with fail
              go_roundw
              case rel =>
                refine ⟨k + 1, ⟨qt, xt, xg, xq⟩, hlt, by go_num, HF2, ?_, ?_⟩
                · exact Lib.hid (block_set (block_set (block_set (block_set (show (wr.drewN _).heap[w.heap.size]? = _ from HO.out) _) _) _) _)
                · exact Lib.hid (((((below_drewN HG.out _).setCell (Nat.le_refl _) _).setCell (Nat.le_refl _) _).setCell (Nat.le_refl _) _).setCell (Nat.le_refl _) _)
              case measure => simp [intOf]; omega
            · have hq : (qt != xf) = true := by simp [he]
              have HR := Lib.hid (show foll l (lastTo l c) c = false from by rw [← HF.out, HS.out]; simp; intro h; exact absurd h.symm he)
              go_wp2_with fail
              go_quiet (fail)
              go_wp2_with fail
              go_ret
              exact ⟨ret_bool (by rw [HP.out, HR.out]; simp), below_drewN HG.out _⟩
          · have k1 : ¬ (k : Int) < (c.length : Int) := by omega
            have HR := Lib.hid (show foll l (lastTo l c) c = true from by rw [← HF.out, List.drop_of_length_le (by omega)]; rfl)
            go_wp2_with fail
            go_ret
            exact ⟨ret_bool (by rw [HP.out, HR.out, HAl.out]; rfl), HG.out⟩
set_option maxRecDepth 100000 in
theorem Refutes_any (n p : Int) (hn : Fits n) (hp : Fits p) (l : List Arc) (a : Option Addr) (cp : Nat) (c : List Int) (ca : Option Addr) (cc : Nat) (w : World) (h : ArcA w a cp l) (hC : IntsA w ca cc c) :
    Calls Try.prog 48 #[.int .i64 n, .slice a l.length cp, .int .i64 p, .slice ca c.length cc] w fun e w' => e = .returned (.bool (refB n p l c)) ∧ Below w.heap.size w w' := by
  have HG := Lib.hid (below_new w (intObj p))
  have HN := Lib.hid (box_cell (heap_alloc_new w (intObj p)) 0 (.int .i64 p) rfl)
  have HV := Lib.hid (Valid_any n hn l a cp _ (h.below HG.out))
  have HA := Lib.hid h; have HC := Lib.hid hC
  have HE := Lib.hid (show refB n p l c = (valid n l && isPer p && isCyc l c && decide (0 < sumOf (len p) l c)) from rfl)
  have HP := Lib.hid (isPeriod_any p)
  have HVi := Lib.hid (show valid n l = true → ∀ a ∈ l, ArcOk a from arcOk_of)
  have HPi := Lib.hid (show isPer p = true → -1000000 ≤ p ∧ p ≤ 1000000 from fun h => Cy.within_iff.1 h)
  have HCi := Lib.hid (show isCyc l c = true → c.length ≤ 200 ∧ ∀ x ∈ c, 0 ≤ x ∧ x < l.length from fun h => by
    unfold isCyc at h
    simp only [Bool.and_eq_true, List.all_eq_true, Cy.within_iff, isNum] at h
    refine ⟨by omega, fun x hx => ?_⟩
    have := h.1.2 x hx
    omega)
  have HCc := Lib.hid (isCycle_any l a cp c ca cc)
  have e1 : IntKind.i64.wrap p = p := IntWalk.i64_in _ hp
  clear h hC hn hp
  rw [HE.out]
  clear HE
  generalize valid n l = V at *
  generalize isPer p = U at *
  generalize isCyc l c = Q at *
  dsimp only [intObj] at HG HN HV
  cases V
  · go_enter Try.func48, Try.ntmps48
    go_wp2_with fail
    refine HV.out.mono ?_; rintro _ w1 ⟨rfl, g1⟩
    have G1 := Lib.hid (below_step HG.out g1); clear g1
    go_wp2_with fail
    go_ret
    exact ⟨ret_bool (by simp), G1.out⟩
  · cases U
    · go_enter Try.func48, Try.ntmps48
      go_wp2_with fail
      refine HV.out.mono ?_; rintro _ w1 ⟨rfl, g1⟩
      have c1 := cell_below g1 HN.out
      have G1 := Lib.hid (below_step HG.out g1); clear g1
      go_wp2_with fail
      refine (HP.out _).mono ?_; rintro _ w1 ⟨rfl, rfl⟩
      go_wp2_with fail
      go_ret
      exact ⟨ret_bool (by simp), G1.out⟩
    · cases Q
      · go_enter Try.func48, Try.ntmps48
        go_wp2_with fail
        refine HV.out.mono ?_; rintro _ w1 ⟨rfl, g1⟩
        have c1 := cell_below g1 HN.out
        have G1 := Lib.hid (below_step HG.out g1); clear g1
        go_wp2_with fail
        refine (HP.out _).mono ?_; rintro _ w1 ⟨rfl, rfl⟩
        go_wp2_with fail
        refine (HCc.out _ (HA.out.below G1.out) (HC.out.below G1.out)).mono ?_; rintro _ w2 ⟨rfl, g2⟩
        have G2 := Lib.hid (below_step G1.out g2); clear g2
        go_wp2_with fail
        go_ret
        exact ⟨ret_bool (by simp), G2.out⟩
      · go_enter Try.func48, Try.ntmps48
        go_wp2_with fail
        refine HV.out.mono ?_; rintro _ w1 ⟨rfl, g1⟩
        have N1 := Lib.hid (cell_below g1 HN.out)
        have c1 := N1.out
        have G1 := Lib.hid (below_step HG.out g1); clear g1
        go_wp2_with fail
        refine (HP.out _).mono ?_; rintro _ w1 ⟨rfl, rfl⟩
        go_wp2_with fail
        refine (HCc.out _ (HA.out.below G1.out) (HC.out.below G1.out)).mono ?_; rintro _ w2 ⟨rfl, g2⟩
        have G2 := Lib.hid (below_step G1.out g2)
        have N2 := Lib.hid (cell_below g2 N1.out); clear g2 c1
        have HTt := Lib.hid (total_any 77 #[.pointer (some ⟨w.heap.size, 0, none⟩)] (len p) l a cp c ca cc w2 (HA.out.below G2.out) (HC.out.below G2.out) (HCi.out trivial).1
          ⟨enters_of Try.func77 (by kernel_rfl) rfl, fun x hx v hv => Refutes1_any x p w.heap.size v (cell_below hv N2.out) (HVi.out trivial x hx) (HPi.out trivial)⟩
          (fun x hx => len_bd (HVi.out trivial x hx).1 (HVi.out trivial x hx).2 (HPi.out trivial)) (HCi.out trivial).2)
        generalize hT : sumOf (len p) l c = T at HTt
        have HT0 := Lib.hid hT; clear hT
        go_wp2_with fail
        refine HTt.out.mono ?_; rintro _ w3 ⟨rfl, g3⟩
        have G3 := Lib.hid (below_step G2.out g3); clear g3
        go_wp2_with fail
        go_ret
        exact ⟨ret_bool (by rw [HT0.out]; simp), G3.out⟩
end Go.Proofs.Ytiolmcnngpaapaa

