/-
  Contract of firstCycle.
-/
import Derived.Test.YtiolmcnngpaapaaPr
import Derived.WalkMore
import Derived.Deep.LoopGhost
namespace Go.Proofs.Ytiolmcnngpaapaa
open Go.RowKit Go.Shelf Cy

/-- A slice of k tables: the i-th one holds the greatest lengths of the walks with i arcs. -/
structure TabsA (w : World) (n : Nat) (p : Int) (L : List Arc) (a : Option Addr) (c k : Nat) : Prop where
  len : k ≤ c ∧ c ≤ maxLen
  tab : ∀ i, i < k → ∃ b off g r, a = some ⟨b, off, none⟩ ∧ w.cell? ⟨b, off + i, none⟩ = some (rowV g n) ∧ TabAt w 0 g n r (Cy.T p L i)
theorem TabsA.below {w w' : World} {n : Nat} {p : Int} {L : List Arc} {a : Option Addr} {c k : Nat} (h : TabsA w n p L a c k) (hb : Below w.heap.size w w') : TabsA w' n p L a c k :=
  ⟨h.len, fun i hi => let ⟨b, off, g, r, e, h1, h2⟩ := h.tab i hi; ⟨b, off, g, r, e, cell_below hb h1, h2.below hb⟩⟩
/-- Numbers as integers. -/
def natsI (c : List Nat) : List Int := c.map fun (m : Nat) => (m : Int)
theorem natsI_len (c : List Nat) : (natsI c).length = c.length := by simp [natsI]
def FcPost (p : Int) (L : List Arc) (k : Nat) (w : World) (e : Ending) (w' : World) : Prop := ∃ v, e = .returned v ∧ IntsO w' w.heap.size v (natsI (cycleAt p L k)) ∧ Below w.heap.size w w'
theorem first_is {L : List Arc} {q : Arc → Bool} {m : Nat} (hm : m < L.length) (hno : ∀ j (h : j < L.length), j < m → q L[j] = false) (hf : q L[m] = true) : firstArc L q = m := by
  unfold firstArc
  exact (List.findIdx_eq hm).2 ⟨hf, fun j hj => hno j (by omega) hj⟩
/-- How far the cycle is, with so many arcs still to come. -/
def FcInv (p : Int) (L : List Arc) (n k lft : Nat) (c : List Nat) (home here spent : Int) : Prop :=
  (lft = k ∧ c = [] ∧ spent = 0) ∨
  (lft < k ∧ ∃ hm hr : Nat, home = (hm : Int) ∧ here = (hr : Int) ∧ hm < n ∧ hr < n ∧ c.length = k - lft ∧ c ++ greedy p L hm lft hr spent = cycleAt p L k ∧ 0 < spent + Cy.T p L lft hr hm ∧ -3000000 * ((k : Int) - lft) ≤ spent ∧ spent ≤ 3000000 * ((k : Int) - lft))
theorem FcInv.next0 {p : Int} {L : List Arc} {n l m : Nat} (hG : Grd n p L) (hm : m < L.length) (hno : ∀ j (h : j < L.length), j < m → fit0 p L l L[j] = false) (hf : fit0 p L l L[m] = true) :
    FcInv p L n (l + 1) l [m] L[m].f L[m].t (0 + len p L[m]) := by
  have h1 := first_is hm hno hf
  have h2 := hG _ (List.getElem_mem hm)
  simp only [fit0, decide_eq_true_eq] at hf
  refine .inr ⟨by omega, L[m].f.toNat, L[m].t.toNat, by omega, by omega, by omega, by omega, by simp, ?_, ?_, by push_cast; omega, by push_cast; omega⟩
  · rw [cycleAt, h1]; simp only [List.getElem?_eq_getElem hm]; rw [Int.zero_add]; rfl
  · omega
theorem FcInv.next {p : Int} {L : List Arc} {n k l m : Nat} {c : List Nat} {hm hr : Nat} {spent : Int} (hG : Grd n p L) (hk : l + 1 < k) (hmn : hm < n) (hlen : c.length = k - (l + 1)) (hgr : c ++ greedy p L hm (l + 1) hr spent = cycleAt p L k)
    (hb1 : -3000000 * ((k : Int) - ((l + 1 : Nat) : Int)) ≤ spent) (hb2 : spent ≤ 3000000 * ((k : Int) - ((l + 1 : Nat) : Int))) (hlt : m < L.length) (hno : ∀ j (h : j < L.length), j < m → fit p L hm hr spent l L[j] = false) (hf : fit p L hm hr spent l L[m] = true) :
    FcInv p L n k l (c ++ [m]) hm L[m].t (spent + len p L[m]) := by
  have h1 := first_is hlt hno hf
  have h2 := hG _ (List.getElem_mem hlt)
  simp only [fit, Bool.and_eq_true, decide_eq_true_eq] at hf
  push_cast at hb1 hb2
  refine .inr ⟨by omega, hm, L[m].t.toNat, rfl, by omega, hmn, by omega, by rw [List.length_append, hlen]; simp; omega, ?_, ?_, by omega, by omega⟩
  · rw [← hgr, greedy, h1]; simp only [List.getElem?_eq_getElem hlt]; rw [List.append_assoc]; rfl
  · exact hf.2
theorem natsI_snoc (c : List Nat) (m : Nat) : natsI (c ++ [m]) = natsI c ++ [(m : Int)] := by simp [natsI]
set_option maxRecDepth 100000 in
set_option maxHeartbeats 8000000 in
theorem firstCycle_any (n : Nat) (p : Int) (L : List Arc) (hG : Grd n p L) (hL : L.length ≤ 200) (hO : ∀ x ∈ L, ArcOk x) (hp : -1000000 ≤ p ∧ p ≤ 1000000) (k : Nat) (hk : k ≤ 32) (hpos : k = 0 ∨ ∃ i, i < n ∧ 0 < Cy.T p L k i i)
    (a : Option Addr) (c : Nat) (ta : Option Addr) (tc : Nat) (w : World) (hA : ArcA w a c L) (hT : TabsA w n p L ta tc k) :
    Calls Try.prog 88 #[.slice a L.length c, .int .i64 p, .slice ta k tc] w (FcPost p L k w) := by
  obtain ⟨i0, hi, hz0, hz1, hz2⟩ := info_parts info_int
  have HA := Lib.hid hA; have HT := Lib.hid hT; have HG := Lib.hid hG; have HO := Lib.hid hO; have HP := Lib.hid hp; have HPos := Lib.hid hpos
  have k1 : (k : Int) ≤ 32 := by omega
  clear hA hT hG hO hp hpos
  go_enter Try.func88, Try.ntmps88
  go_wp2_with fail
  go_step3
  go_wp2_with fail
  go_step3
  go_wp2_with fail
  go_loopg [7, 8, 9, 10, 11] k (fun gh cv hv ev sv lv wr => ∃ (lft : Nat) (cs : List Nat) (home here spent : Int) (v : Value), lft ≤ k ∧ gh = lft ∧ v = cv ∧ hv = .int .i64 home ∧ ev = .int .i64 here ∧ sv = .int .i64 spent ∧ lv = .int .i64 ((lft : Int) - 1) ∧ Hid (FcInv p L n k lft cs home here spent) ∧ Hid (IntsO wr w.heap.size v (natsI cs)) ∧ Hid (Below w.heap.size w wr))
  case atStart => exact ⟨k, [], 0, 0, 0, _, Nat.le_refl _, rfl, rfl, rfl, rfl, rfl, rfl, Lib.hid (.inl ⟨rfl, rfl, rfl⟩), Lib.hid (RowO.nil _ _ _ _ _), Lib.hid (Below.refl _ _)⟩
  case round =>
    obtain ⟨lft, cs, home, here, spent, v, hlk, rfl, rfl, rfl, rfl, rfl, rfl, HI, HV, HB⟩ := hrel
    cases gk with
    | zero =>
      have l1 : ¬ (0 : Int) ≤ ((0 : Nat) : Int) - 1 := by omega
      have HE := Lib.hid (show cs = cycleAt p L k from by
        rcases HI.out with ⟨h1, h2, -⟩ | ⟨-, hm, hr, -, -, -, -, -, h, -⟩
        · rw [← h1, h2]; rfl
        · simpa [greedy] using h)
      go_wp2_with fail
      try rw [Exit.noGoto_ret]
      go_ret
      exact ⟨v, rfl, by rw [← HE.out]; exact HV.out, HB.out⟩
    | succ l =>
      have l1 : (0 : Int) ≤ ((l + 1 : Nat) : Int) - 1 := by omega
      have l2 : ((l + 1 : Nat) : Int) - 1 = (l : Int) := by omega
      have l3 : (0 : Int) ≤ (l : Int) := by omega
      have l4 : (l : Int) < (k : Int) := by omega
      rw [l2]
      have HL2 := Lib.hid l2
      clear l2 l1
      rename World => wo
      rcases HI.out with ⟨h1, h2, h3⟩ | ⟨h1, hm, hr, h2, h3, h4, h5, h6, h7, h8, h9, h10⟩
      · subst h2; subst h3; have Hk1 := Lib.hid h1; clear h1
        have HF := Lib.hid (show ∃ x ∈ L, fit0 p L l x = true from by
          rcases HPos.out with h | ⟨i, hi, h⟩
          · omega
          · rw [← Hk1.out] at h; exact fit0_of_T HG.out (by omega) h)
        obtain ⟨va, vc, hv, -⟩ := own_slice HV.out
        subst hv
        clear HI
        go_wp2_with fail
        go_loopg [7, 8, 9, 10, 24] L.length (fun gh cv hv ev sv iv wr => ∃ (m : Nat) (home here : Int), m ≤ L.length ∧ cv = .slice va (natsI []).length vc ∧ sv = .int .i64 0 ∧ gh = L.length - m ∧ iv = .int .i64 (m : Int) ∧ hv = .int .i64 home ∧ ev = .int .i64 here ∧ Hid (∀ j (h : j < L.length), j < m → fit0 p L l L[j] = false) ∧ Hid (IntsO wr w.heap.size (.slice va (natsI []).length vc) (natsI [])) ∧ Hid (Below w.heap.size w wr))
        case atStart => exact ⟨0, home, here, Nat.zero_le _, rfl, rfl, by omega, rfl, rfl, rfl, Lib.hid (fun j _ hj => by omega), HV, HB⟩
        case round =>
          clear HV HB
          obtain ⟨m, home, here, hm, rfl, rfl, rfl, rfl, rfl, rfl, HNo, HV, HB⟩ := hrel
          by_cases hlt : m < L.length
          · have m0 : (0 : Int) ≤ (m : Int) := by omega
            have m1 : (m : Int) < (L.length : Int) := by omega
            obtain ⟨b, off, rfl, hb, hc⟩ := (HA.out.below HB.out).at (by omega)
            obtain ⟨x0, x1, x2, x3⟩ := arc_cells (hc m hlt)
            have HNx := Lib.hid (show fit0 p L l L[m] = false → ∀ j (h : j < L.length), j < m + 1 → fit0 p L l L[j] = false from fun h j hj hjm => by
              rcases Nat.lt_or_eq_of_le (Nat.le_of_lt_succ hjm) with h1 | h1
              · exact HNo.out j hj h1
              · subst h1; exact h)
            have HYs := Lib.hid (show _ → FcInv p L n k l ([] ++ [m]) L[m].f L[m].t (len p L[m]) from fun h => by have h0 := FcInv.next0 HG.out hlt HNo.out h; rw [Int.zero_add, Hk1.out] at h0; exact h0)
            have HXo := Lib.hid (HO.out L[m] (List.getElem_mem hlt))
            have hxg := HG.out L[m] (List.getElem_mem hlt)
            clear hc HNo
            generalize L[m] = x at *
            have HGb := Lib.hid (below_new wr (arcObj x))
            have HNew := Lib.hid (heap_alloc_new wr (arcObj x))
            have HLn := Lib.hid (fun v => (lengthOf_any p x v HXo.out.1 HXo.out.2 HP.out).mono (R' := fun e w' => e = .returned (.int .i64 (len p x)) ∧ Below v.heap.size v w') (fun e w' h => ⟨h.1, by rw [h.2]; exact below_new _ _⟩))
            have HB2 := Lib.hid (below_step HB.out HGb.out)
            have HV2 := Lib.hid (HV.out.below HGb.out)
            obtain ⟨xf, xt, xw, xk⟩ := x
            simp only at x0 x1 x2 x3 hxg
            obtain ⟨uf, rfl⟩ := Int.eq_ofNat_of_zero_le hxg.1
            obtain ⟨ut, rfl⟩ := Int.eq_ofNat_of_zero_le hxg.2.2.1
            have hlen := hxg.2.2.2.2
            have huf : uf < n := by omega
            have hut : ut < n := by omega
            obtain ⟨tb, toff, g, r, hta, htc, htt⟩ := (HT.out.below HB2.out).tab l (by omega)
            obtain ⟨d0, hd⟩ := htt.cells hut
            obtain ⟨d1, -⟩ := hd uf (by omega)
            have htb := T_bd HG.out (k := l) (i := ut) (j := uf)
            subst hta
            clear hd htt hxg
            have HFt := Lib.hid (show fit0 p L l ⟨(uf : Int), (ut : Int), xw, xk⟩ = decide (0 < len p ⟨(uf : Int), (ut : Int), xw, xk⟩ + Cy.T p L l ut uf) from rfl)
            dsimp only [arcObj] at HGb HNew HLn HB2 HV2 htc d0 d1
            generalize hLn : len p ⟨(uf : Int), (ut : Int), xw, xk⟩ = Ln at *
            generalize hTv : Cy.T p L l ut uf = Tv at *
            simp only at HYs
            clear hTv
            have e1 : IntKind.i64.wrap ((0 : Int) + Ln) = (0 : Int) + Ln := IntWalk.i64_in _ (by omega)
            have e2 : IntKind.i64.wrap ((0 : Int) + Ln + Tv) = (0 : Int) + Ln + Tv := IntWalk.i64_in _ (by omega)
            have e3 : IntKind.i64.wrap (Ln + Tv) = Ln + Tv := IntWalk.i64_in _ (by omega)
            go_wp2_with fail
            generalize wr.alloc (.cells #[.int .i64 (uf : Int), .int .i64 (ut : Int), .int .i64 xw, .int .i64 xk] 71) = w2 at *
            have y0 := box_cell HNew.out 0 (.int .i64 (uf : Int)) rfl
            have y1 := box_cell HNew.out 1 (.int .i64 (ut : Int)) rfl
            have y2 := box_cell HNew.out 2 (.int .i64 xw) rfl
            have y3 := box_cell HNew.out 3 (.int .i64 xk) rfl
            go_quiet (fail)
            go_wp2_with fail
            refine (HLn.out _).mono ?_
            rintro _ w4 ⟨rfl, g4⟩
            have hb4 : Below w2.heap.size w2 w4 := (below_drewN (Below.refl _ _) nq).trans g4
            replace y0 := cell_below hb4 y0; replace y1 := cell_below hb4 y1; replace y2 := cell_below hb4 y2; replace y3 := cell_below hb4 y3; replace htc := cell_below hb4 htc; replace d0 := cell_below hb4 d0; replace d1 := cell_below hb4 d1
            replace HB2 := Lib.hid (below_step HB2.out hb4)
            replace HV2 := Lib.hid (HV2.out.below hb4)
            have HNw := Lib.hid (box_below HNew.out hb4)
            clear g4 hb4 HGb HNew HLn x0 x1 x2 x3
            have u0 : (0 : Int) ≤ (ut : Int) := by omega
            have u1 : (ut : Int) < (n : Int) := by omega
            have u2 : (0 : Int) ≤ (uf : Int) := by omega
            have u3 : (uf : Int) < (n : Int) := by omega
            have u4 : (l : Int) < ((k : Nat) : Int) := by omega
            go_upto_region 12 with (fail)
            have qq : ((uf : Int) == (uf : Int)) = true := by simp
            by_cases hfit : 0 < Ln + Tv
            · have HInv := Lib.hid (HYs.out (by rw [HFt.out]; simpa using hfit))
              clear HYs HNx HFt
              go_quiet (fail)
              go_upto_region 13 with (fail)
              generalize hW5 : w4.drewN nq = w5
              have HV5 := Lib.hid (show IntsO w5 w.heap.size (.slice va (natsI []).length vc) (natsI []) from by rw [← hW5]; exact HV2.out)
              have HB5 := Lib.hid (show Below w.heap.size w w5 from by rw [← hW5]; exact below_drewN HB2.out _)
              have HN5 := Lib.hid (show w5.heap[wr.heap.size]? = some (.cells #[.int .i64 (uf : Int), .int .i64 (ut : Int), .int .i64 xw, .int .i64 xk] 71) from by rw [← hW5]; exact HNw.out)
              clear hW5 y0 y1 y2 y3 htc d0 d1 HV2 HB2 HNw
              have hbs := HB5.out.size
              have hcl0 : (natsI []).length = 0 := rfl
              go_upto_region 14 with (at_builtin; refine wpList_append_own _ rfl _ _ 25 rfl w.heap.size 3 i0 (.int .i64 0) 1 8 Try.underlying25 hi hz0 hz1 hz2 rfl (by decide) _ _ _ rfl (World.ownsRow.alloc (show w5.ownsRow w.heap.size 3 1 (.slice va (natsI []).length vc) (natsI []).length ((natsI []).flatMap intCells) from HV5.out) _) ⟨w5.heap.size, 0, none⟩ 1 1 [.int .i64 (m : Int)] rfl rfl (cell_one_new _ _ _) (by simp [Value.oneCell']) (by unfold maxLen; omega) (by omega) (by simp; omega) ?_; intro v' w6 hown' hgrow _)
              have HV6 := Lib.hid (show IntsO w6 w.heap.size v' (natsI ([] ++ [m])) from by rw [natsI_snoc]; exact RowO.snoc hown')
              have hN5 := box_below HN5.out (below_new w5 (.cells #[.int .i64 (m : Int)] 3))
              have HN6 := Lib.hid (show w6.heap[wr.heap.size]? = some (.cells #[.int .i64 (uf : Int), .int .i64 (ut : Int), .int .i64 xw, .int .i64 xk] 71) from (hgrow.block _ (lt_of_block hN5) (fun e => by
                obtain ⟨cc, hcc⟩ := own_block (HV5.out.below (below_new w5 (.cells #[.int .i64 (m : Int)] 3))) e.symm
                rw [hN5] at hcc; injection hcc with hcc; injection hcc with _ hcc; exact absurd hcc (by decide))).trans hN5)
              have HB6 := Lib.hid (HB5.out.trans (((Below.refl w.heap.size w5).alloc hbs (.cells #[.int .i64 (m : Int)] 3)).grown hgrow (by simp; omega) (fun kk e => (World.ownsRow.lt (show w5.ownsRow w.heap.size 3 1 (.slice va (natsI []).length vc) (natsI []).length ((natsI []).flatMap intCells) from HV5.out) kk e).1)))
              clear hown' hgrow hN5 HV5 HB5 HN5
              have y1 := box_cell HN6.out 1 (.int .i64 (ut : Int)) rfl
              go_wp2_with fail
              go_roundg l
              case rel => exact ⟨l, [] ++ [m], _, _, _, v', by omega, rfl, rfl, rfl, rfl, rfl, rfl, HInv, HV6, HB6⟩
              case measure => omega
            · have HNo2 := Lib.hid (HNx.out (by rw [HFt.out]; simpa using hfit))
              clear HYs HNx HFt
              go_quiet (fail)
              go_wp2_with fail
              go_roundg (L.length - (m + 1))
              case rel => exact ⟨m + 1, _, _, hlt, rfl, rfl, rfl, by go_num, rfl, rfl, HNo2, HV2, Lib.hid (below_drewN HB2.out _)⟩
              case measure => omega
          · exfalso
            obtain ⟨x, hx, hxf⟩ := HF.out
            obtain ⟨j, hj, rfl⟩ := List.getElem_of_mem hx
            rw [HNo.out j hj (by omega)] at hxf; cases hxf
      · subst h2; subst h3
        have HF := Lib.hid (show ∃ x ∈ L, fit p L hm hr spent l x = true from fit_of_T HG.out (k := l) (show l ≤ 200 by omega) (show spent ≤ 600000000 by push_cast at h10; omega) h8)
        obtain ⟨va, vc, hv, -⟩ := own_slice HV.out
        subst hv
        have hcl : cs.length = k - (l + 1) := h6
        have hb1 := h9
        have hb2 := h10
        push_cast at hb1 hb2
        have Hm := Lib.hid h4; have Hl := Lib.hid h6; have Hg := Lib.hid h7; have H9 := Lib.hid h9; have H10 := Lib.hid h10; have Hk := Lib.hid h1
        have Hcn := Lib.hid (natsI_len cs)
        clear HI h8 h6 h7 h9 h10
        have hq0 : 1 ≤ (natsI cs).length := by rw [natsI_len]; omega
        have hq1 : (natsI cs).length ≤ 32 := by rw [natsI_len]; omega
        clear hcl
        have hqb : (((natsI cs).length : Int) == 0) = false := by rw [beq_eq_false_iff_ne]; omega
        have hqn : ¬ ((natsI cs).length : Int) = 0 := by omega
        have hmn : hm < n := h4
        have hrn : hr < n := h5
        go_wp2_with fail
        go_loopg [7, 8, 9, 10, 24] L.length (fun gh cv hv ev sv iv wr => ∃ (m : Nat), m ≤ L.length ∧ cv = .slice va (natsI cs).length vc ∧ hv = .int .i64 (hm : Int) ∧ ev = .int .i64 (hr : Int) ∧ sv = .int .i64 spent ∧ gh = L.length - m ∧ iv = .int .i64 (m : Int) ∧ Hid (∀ j (h : j < L.length), j < m → fit p L hm hr spent l L[j] = false) ∧ Hid (IntsO wr w.heap.size (.slice va (natsI cs).length vc) (natsI cs)) ∧ Hid (Below w.heap.size w wr))
        case atStart => exact ⟨0, Nat.zero_le _, rfl, rfl, rfl, rfl, by omega, rfl, Lib.hid (fun j _ hj => by omega), HV, HB⟩
        case round =>
          clear HV HB
          obtain ⟨m, hmL, rfl, rfl, rfl, rfl, rfl, rfl, HNo, HV, HB⟩ := hrel
          by_cases hlt : m < L.length
          · have m0 : (0 : Int) ≤ (m : Int) := by omega
            have m1 : (m : Int) < (L.length : Int) := by omega
            obtain ⟨b, off, rfl, hb, hc⟩ := (HA.out.below HB.out).at (by omega)
            obtain ⟨x0, x1, x2, x3⟩ := arc_cells (hc m hlt)
            have HNx := Lib.hid (show fit p L hm hr spent l L[m] = false → ∀ j (h : j < L.length), j < m + 1 → fit p L hm hr spent l L[j] = false from fun h j hj hjm => by
              rcases Nat.lt_or_eq_of_le (Nat.le_of_lt_succ hjm) with h1 | h1
              · exact HNo.out j hj h1
              · subst h1; exact h)
            have HYs := Lib.hid (fun h => FcInv.next HG.out Hk.out Hm.out Hl.out Hg.out H9.out H10.out hlt HNo.out h)
            have HXo := Lib.hid (HO.out L[m] (List.getElem_mem hlt))
            have hxg := HG.out L[m] (List.getElem_mem hlt)
            clear hc HNo
            generalize L[m] = x at *
            have HGb := Lib.hid (below_new wr (arcObj x))
            have HNew := Lib.hid (heap_alloc_new wr (arcObj x))
            have HLn := Lib.hid (fun v => (lengthOf_any p x v HXo.out.1 HXo.out.2 HP.out).mono (R' := fun e w' => e = .returned (.int .i64 (len p x)) ∧ Below v.heap.size v w') (fun e w' h => ⟨h.1, by rw [h.2]; exact below_new _ _⟩))
            have HB2 := Lib.hid (below_step HB.out HGb.out)
            have HV2 := Lib.hid (HV.out.below HGb.out)
            obtain ⟨xf, xt, xw, xk⟩ := x
            simp only at x0 x1 x2 x3 hxg
            obtain ⟨uf, rfl⟩ := Int.eq_ofNat_of_zero_le hxg.1
            obtain ⟨ut, rfl⟩ := Int.eq_ofNat_of_zero_le hxg.2.2.1
            have hlen := hxg.2.2.2.2
            have huf : uf < n := by omega
            have hut : ut < n := by omega
            obtain ⟨tb, toff, g, r, hta, htc, htt⟩ := (HT.out.below HB2.out).tab l (by omega)
            obtain ⟨d0, hd⟩ := htt.cells hut
            obtain ⟨d1, -⟩ := hd hm (by omega)
            have htb := T_bd HG.out (k := l) (i := ut) (j := hm)
            subst hta
            clear hd htt hxg
            have HFt := Lib.hid (show fit p L hm hr spent l ⟨(uf : Int), (ut : Int), xw, xk⟩ = (decide (uf = hr) && decide (0 < spent + len p ⟨(uf : Int), (ut : Int), xw, xk⟩ + Cy.T p L l ut hm)) from rfl)
            dsimp only [arcObj] at HGb HNew HLn HB2 HV2 htc d0 d1
            generalize hLn : len p ⟨(uf : Int), (ut : Int), xw, xk⟩ = Ln at *
            generalize hTv : Cy.T p L l ut hm = Tv at *
            simp only at HYs
            clear hTv
            have e1 : IntKind.i64.wrap (spent + Ln) = spent + Ln := IntWalk.i64_in _ (by omega)
            have e2 : IntKind.i64.wrap (spent + Ln + Tv) = spent + Ln + Tv := IntWalk.i64_in _ (by omega)
            go_wp2_with fail
            generalize wr.alloc (.cells #[.int .i64 (uf : Int), .int .i64 (ut : Int), .int .i64 xw, .int .i64 xk] 71) = w2 at *
            have y0 := box_cell HNew.out 0 (.int .i64 (uf : Int)) rfl
            have y1 := box_cell HNew.out 1 (.int .i64 (ut : Int)) rfl
            have y2 := box_cell HNew.out 2 (.int .i64 xw) rfl
            have y3 := box_cell HNew.out 3 (.int .i64 xk) rfl
            refine (HLn.out _).mono ?_
            rintro _ w4 ⟨rfl, g4⟩
            have hb4 : Below w2.heap.size w2 w4 := g4
            replace y0 := cell_below hb4 y0; replace y1 := cell_below hb4 y1; replace y2 := cell_below hb4 y2; replace y3 := cell_below hb4 y3; replace htc := cell_below hb4 htc; replace d0 := cell_below hb4 d0; replace d1 := cell_below hb4 d1
            replace HB2 := Lib.hid (below_step HB2.out hb4)
            replace HV2 := Lib.hid (HV2.out.below hb4)
            have HNw := Lib.hid (box_below HNew.out hb4)
            clear g4 hb4 HGb HNew HLn x0 x1 x2 x3
            have u0 : (0 : Int) ≤ (ut : Int) := by omega
            have u1 : (ut : Int) < (n : Int) := by omega
            have u2 : (0 : Int) ≤ (hm : Int) := by omega
            have u3 : (hm : Int) < (n : Int) := by omega
            have u4 : (l : Int) < ((k : Nat) : Int) := by omega
            go_upto_region 12 with (fail)
            by_cases huh : uf = hr
            · subst huh
              have qq : ((uf : Int) == (uf : Int)) = true := by simp
              by_cases hfit : 0 < spent + Ln + Tv
              · have HInv := Lib.hid (HYs.out (by rw [HFt.out]; simpa using hfit))
                clear HYs HNx HFt
                go_quiet (fail)
                go_upto_region 13 with (fail)
                generalize hW5 : w4.drewN nq = w5
                have HV5 := Lib.hid (show IntsO w5 w.heap.size (.slice va (natsI cs).length vc) (natsI cs) from by rw [← hW5]; exact HV2.out)
                have HB5 := Lib.hid (show Below w.heap.size w w5 from by rw [← hW5]; exact below_drewN HB2.out _)
                have HN5 := Lib.hid (show w5.heap[wr.heap.size]? = some (.cells #[.int .i64 (uf : Int), .int .i64 (ut : Int), .int .i64 xw, .int .i64 xk] 71) from by rw [← hW5]; exact HNw.out)
                clear hW5 y0 y1 y2 y3 htc d0 d1 HV2 HB2 HNw
                have hbs := HB5.out.size
                go_upto_region 14 with (at_builtin; refine wpList_append_own _ rfl _ _ 25 rfl w.heap.size 3 i0 (.int .i64 0) 1 8 Try.underlying25 hi hz0 hz1 hz2 rfl (by decide) _ _ _ rfl (World.ownsRow.alloc (show w5.ownsRow w.heap.size 3 1 (.slice va (natsI cs).length vc) (natsI cs).length ((natsI cs).flatMap intCells) from HV5.out) _) ⟨w5.heap.size, 0, none⟩ 1 1 [.int .i64 (m : Int)] rfl rfl (cell_one_new _ _ _) (by simp [Value.oneCell']) (by unfold maxLen; omega) (by omega) (by simp; omega) ?_; intro v' w6 hown' hgrow _)
                have HV6 := Lib.hid (show IntsO w6 w.heap.size v' (natsI (cs ++ [m])) from by rw [natsI_snoc]; exact RowO.snoc hown')
                have hN5 := box_below HN5.out (below_new w5 (.cells #[.int .i64 (m : Int)] 3))
                have HN6 := Lib.hid (show w6.heap[wr.heap.size]? = some (.cells #[.int .i64 (uf : Int), .int .i64 (ut : Int), .int .i64 xw, .int .i64 xk] 71) from (hgrow.block _ (lt_of_block hN5) (fun e => by
                  obtain ⟨cc, hcc⟩ := own_block (HV5.out.below (below_new w5 (.cells #[.int .i64 (m : Int)] 3))) e.symm
                  rw [hN5] at hcc; injection hcc with hcc; injection hcc with _ hcc; exact absurd hcc (by decide))).trans hN5)
                have HB6 := Lib.hid (HB5.out.trans (((Below.refl w.heap.size w5).alloc hbs (.cells #[.int .i64 (m : Int)] 3)).grown hgrow (by simp; omega) (fun kk e => (World.ownsRow.lt (show w5.ownsRow w.heap.size 3 1 (.slice va (natsI cs).length vc) (natsI cs).length ((natsI cs).flatMap intCells) from HV5.out) kk e).1)))
                clear hown' hgrow hN5 HV5 HB5 HN5
                have y1 := box_cell HN6.out 1 (.int .i64 (ut : Int)) rfl
                go_wp2_with fail
                go_roundg l
                case rel => exact ⟨l, cs ++ [m], _, _, _, v', by omega, rfl, rfl, rfl, rfl, rfl, rfl, HInv, HV6, HB6⟩
                case measure => omega
              · have HNo2 := Lib.hid (HNx.out (by rw [HFt.out]; simpa using hfit))
                clear HYs HNx HFt
                go_quiet (fail)
                go_wp2_with fail
                go_roundg (L.length - (m + 1))
                case rel => exact ⟨m + 1, hlt, rfl, rfl, rfl, rfl, rfl, by go_num, HNo2, HV2, Lib.hid (below_drewN HB2.out _)⟩
                case measure => omega
            · have qq : ((uf : Int) == (hr : Int)) = false := by rw [beq_eq_false_iff_ne]; omega
              have HNo2 := Lib.hid (HNx.out (by rw [HFt.out]; simp [huh]))
              clear HYs HNx HFt
              go_quiet (fail)
              go_wp2_with fail
              go_roundg (L.length - (m + 1))
              case rel => exact ⟨m + 1, hlt, rfl, rfl, rfl, rfl, rfl, by go_num, HNo2, HV2, Lib.hid (below_drewN HB2.out _)⟩
              case measure => omega
          · exfalso
            obtain ⟨x, hx, hxf⟩ := HF.out
            obtain ⟨j, hj, rfl⟩ := List.getElem_of_mem hx
            rw [HNo.out j hj (by omega)] at hxf; cases hxf
end Go.Proofs.Ytiolmcnngpaapaa

