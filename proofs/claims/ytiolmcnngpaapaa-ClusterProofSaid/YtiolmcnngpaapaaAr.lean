/-
  Arcs.
-/
import Derived.Test.YtiolmcnngpaapaaOd
namespace Go.Proofs.Ytiolmcnngpaapaa
open Go.RowKit Go.Shelf Cl
open Cy (Arc)

/-- Orders as an argument; the rows lie in blocks from C on. -/
def OrdA (w : World) (C : Nat) (a : Option Addr) (c : Nat) (O : List (List Int)) : Prop :=
  O.length ≤ c ∧ c ≤ maxLen ∧ ∀ i (h : i < O.length), ∃ b off r : Nat, a = some ⟨b, off, none⟩ ∧ b < w.heap.size ∧ w.cell? ⟨b, off + i, none⟩ = some (rowV r O[i].length) ∧ C ≤ r ∧ IntRow w r O[i]
theorem OrdA.below {w w' : World} {C : Nat} {a : Option Addr} {c : Nat} {O : List (List Int)} (h : OrdA w C a c O) (hb : Below w.heap.size w w') : OrdA w' C a c O := by
  refine ⟨h.1, h.2.1, fun i hi => ?_⟩
  obtain ⟨b, off, r, rfl, h1, h2, h3, h4⟩ := h.2.2 i hi
  exact ⟨b, off, r, rfl, Nat.lt_of_lt_of_le h1 hb.size, cell_below hb h2, h3, box_below h4 hb⟩
theorem OrdsO.arg {w : World} {C : Nat} {v : Value} {P : List (Nat × List Int)} {O : List (List Int)} (h : OrdsO w C v P) (hP : P.map (·.2) = O) : ∃ a c, v = .slice a O.length c ∧ OrdA w C a c O ∧ (∀ x, a = some x → C ≤ x.block) := by
  obtain ⟨a, c, rfl, h1, h2, h3⟩ := own_slice h.own
  have hfar : ∀ x, a = some x → C ≤ x.block := fun x hx => by subst hx; exact (h.own.lt x.block rfl).1
  have hl : P.length = O.length := by rw [← hP, List.length_map]
  refine ⟨a, c, by rw [hl], ⟨by omega, h2, fun i hi => ?_⟩, hfar⟩
  obtain ⟨g, rfl, hg, hc⟩ := h3 (by omega)
  have hi2 : i < P.length := by omega
  have he : O[i] = P[i].2 := by subst hP; simp
  have := hc i (rowVal P[i]) (by simp [hi2])
  exact ⟨g, 0, P[i].1, rfl, hg, by rw [he]; exact this, (h.rows _ (List.getElem_mem hi2)).1, by rw [he]; exact (h.rows _ (List.getElem_mem hi2)).2⟩
/-- Orders, as a list that can be read. -/
def OrdsR (w : World) (O : List (List Int)) (e : Ending) (w' : World) : Prop := ∃ a c, e = .returned (.slice a O.length c) ∧ Hid (OrdA w' w.heap.size a c O) ∧ (∀ x, a = some x → w.heap.size ≤ x.block) ∧ Hid (Below w.heap.size w w')
theorem cOrdersR_any (c : Tool) (a : Option Addr) (k : Nat) (w : World) (h : ChA w a k c.chs) : Calls Try.prog 14 #[toolV c a k] w (OrdsR w (ordersT c)) :=
  (cOrders_any c a k w h).mono fun e w' ⟨v, P, h1, h2, h3, h4⟩ => by
    obtain ⟨x, y, rfl, h5, h6⟩ := h2.out.arg h3
    exact ⟨x, y, h1, Lib.hid h5, h6, h4⟩
theorem IntRow.ints {w : World} {r : Nat} {x : List Int} (h : IntRow w r x) (hm : x.length ≤ 1000) : IntsA w (some ⟨r, 0, none⟩) x.length x := by
  refine ⟨Nat.le_refl _, by unfold maxLen; omega, fun i hi => ⟨r, 0, rfl, lt_of_block h, fun q v hv => ?_⟩⟩
  have hq : q = 0 := by
    have := (List.getElem?_eq_some_iff.1 hv).1
    rw [int_len] at this; omega
  subst hq
  simp only [intCells, List.getElem?_cons_zero, Option.some.injEq] at hv
  subst hv
  have := h.cell hi
  rw [List.getD_eq_getElem?_getD, List.getElem?_eq_getElem hi] at this
  simpa using this
set_option maxRecDepth 100000 in
theorem Arcs1_any (p o : List Int) (pa oa : Option Addr) (pc oc X : Nat) (w : World) (hp : IntsA w pa pc p) (ho : IntsA w oa oc o) (hX : w.cell? ⟨X, 0, none⟩ = some (.slice oa o.length oc)) :
    Calls Try.prog 40 #[.slice pa p.length pc, boxP X] w fun e w' => e = .returned (.bool (decide (p = o))) ∧ Below w.heap.size w w' := by
  have HE := Lib.hid (slEqual_any p o pa oa pc oc w hp ho)
  generalize decide (p = o) = V at *
  generalize p.length = pl at *
  generalize o.length = ol at *
  clear hp ho
  go_enter Try.func40, Try.ntmps40
  go_wp2_with fail
  refine HE.out.mono ?_
  rintro _ w1 ⟨rfl, b1⟩
  have B1 := Lib.hid b1
  clear b1
  go_wp2_with fail
  go_ret
  exact ⟨rfl, B1.out⟩
set_option maxRecDepth 100000 in
set_option maxHeartbeats 1000000 in
theorem ixOrd_any (O : List (List Int)) (hO : ∀ p ∈ O, p.length ≤ 1000) (o : List Int) (a oa : Option Addr) (C c oc X : Nat) (w : World) (h : OrdA w C a c O) (ho : IntsA w oa oc o) (hX : w.cell? ⟨X, 0, none⟩ = some (.slice oa o.length oc)) :
    Calls Try.prog 70 #[.slice a O.length c, .func (.func 40) #[] #[boxP X]] w (IdxP (decide (o ∉ O)) w) := by
  have hl := Nat.le_trans h.1 h.2.1
  unfold maxLen at hl
  have HA := Lib.hid h; have HO := Lib.hid ho; have HX := Lib.hid hX
  have en := enters_of Try.func40 (by kernel_rfl) rfl
  have HOl := Lib.hid hO
  clear h ho hX hO
  go_enter Try.func70, Try.ntmps70
  go_wp2_with fail
  go_loopw [8] (fun i wr => ∃ k : Nat, k ≤ O.length ∧ i = .int .i64 (k : Int) ∧ Hid (∀ j (h : j < O.length), j < k → O[j] ≠ o) ∧ Hid (Below w.heap.size w wr)) (fun i _ => O.length - (intOf i).toNat)
  case atStart => exact ⟨0, Nat.zero_le _, rfl, Lib.hid (fun i _ hi => by omega), Lib.hid (Below.refl _ _)⟩
  case round =>
    obtain ⟨k, hk, rfl, HF, HG⟩ := hrel
    by_cases hlt : k < O.length
    · obtain ⟨b, off, r, rfl, hb, hc, -, hr⟩ := (HA.out.below HG.out).2.2 k hlt
      have HV := Lib.hid (Arcs1_any O[k] o (some ⟨r, 0, none⟩) oa O[k].length oc X wr (hr.ints (HOl.out _ (List.getElem_mem hlt))) (HO.out.below HG.out) (cell_below HG.out HX.out))
      have HS := Lib.hid (show O[k] ≠ o → ∀ j (h : j < O.length), j < k + 1 → O[j] ≠ o from fun h j hj hi => by
        rcases Nat.lt_or_eq_of_le (Nat.le_of_lt_succ hi) with h1 | h1
        · exact HF.out j hj h1
        · subst h1; exact h)
      have HM := Lib.hid (show O[k] ∈ O from List.getElem_mem hlt)
      have k0 : (0 : Int) ≤ (k : Int) := by omega
      have k1 : (k : Int) < (O.length : Int) := by omega
      clear hr
      generalize O[k] = p at *
      by_cases hp : p = o
      · rw [decide_eq_true hp] at HV
        have HR := Lib.hid (show decide (o ∉ O) = false from decide_eq_false (fun h => h (hp ▸ HM.out)))
        clear hp HS HM
        go_wp2_with fail
        refine HV.out.mono ?_
        rintro _ w1 ⟨rfl, g1⟩
        have G1 := Lib.hid (below_step HG.out g1)
        clear g1
        go_wp2_with fail
        go_ret
        exact ⟨(k : Int), rfl, ⟨fun _ => HR.out, fun _ => k0⟩, G1.out⟩
      · rw [decide_eq_false hp] at HV
        have HR := Lib.hid (HS.out hp)
        clear hp HS HM
        go_wp2_with fail
        refine HV.out.mono ?_
        rintro _ w1 ⟨rfl, g1⟩
        have G1 := Lib.hid (below_step HG.out g1)
        clear g1
        go_wp2_with fail
        go_roundw
        case rel => exact ⟨k + 1, hlt, by go_num, HR, G1⟩
        case measure => simp [intOf]; omega
    · have k1 : ¬ (k : Int) < (O.length : Int) := by omega
      have HR := Lib.hid (show o ∉ O from fun hm => by
        obtain ⟨i, hi, e⟩ := List.getElem_of_mem hm
        exact HF.out i hi (by omega) e)
      go_wp2_with fail
      go_ret
      exact ⟨-1, rfl, ⟨fun h => absurd h (by omega), fun h => absurd HR.out (by simpa using h)⟩, HG.out⟩
set_option maxRecDepth 100000 in
theorem hasOrd_any (O : List (List Int)) (hO : ∀ p ∈ O, p.length ≤ 1000) (o : List Int) (a oa : Option Addr) (C c oc X : Nat) (w : World) (h : OrdA w C a c O) (ho : IntsA w oa oc o) (hX : w.cell? ⟨X, 0, none⟩ = some (.slice oa o.length oc)) :
    Calls Try.prog 39 #[.slice a O.length c, .func (.func 40) #[] #[boxP X]] w fun e w' => e = .returned (.bool (decide (o ∈ O))) ∧ Below w.heap.size w w' := by
  have HI := Lib.hid (ixOrd_any O hO o a oa C c oc X w h ho hX)
  have HD := Lib.hid (show decide (o ∈ O) = !decide (o ∉ O) from by by_cases h : o ∈ O <;> simp [h])
  generalize O.length = m at *
  generalize decide (o ∈ O) = U at *
  generalize decide (o ∉ O) = V at *
  clear h ho hX hO
  go_enter Try.func39, Try.ntmps39
  go_wp2_with fail
  refine HI.out.mono ?_
  rintro _ w1 ⟨r, rfl, hr, g1⟩
  have HR := Lib.hid hr; have G1 := Lib.hid g1
  clear hr g1
  by_cases h0 : 0 ≤ r
  · go_wp2_with fail
    go_ret
    exact ⟨ret_bool (by rw [HD.out, HR.out.1 h0]; rfl), G1.out⟩
  · have HV := Lib.hid (show V = true by cases V; exact absurd (HR.out.2 rfl) h0; rfl)
    go_wp2_with fail
    go_ret
    exact ⟨ret_bool (by rw [HD.out, HV.out]; simp; omega), G1.out⟩
/-- What Arcs leaves. -/
def arcsR (c : Tool) (o : List Int) : List Arc := if o ∈ ordersT c then arcsC c o else []
def errR (c : Tool) (o : List Int) : Int := if o ∈ ordersT c then 0 else 130
def ArcsP (w : World) (c : Tool) (o : List Int) (e : Ending) (w' : World) : Prop := ∃ a k, e = .returned (.tuple #[.slice a (arcsR c o).length k, .int .i64 (errR c o)]) ∧ ArcA w' a k (arcsR c o) ∧ (∀ x, a = some x → w.heap.size ≤ x.block ∧ x.block < w'.heap.size) ∧ Below w.heap.size w w'
set_option maxRecDepth 100000 in
set_option maxHeartbeats 4000000 in
theorem cArcs_any (c : Tool) (o : List Int) (a oa : Option Addr) (k oc : Nat) (w : World) (h : ChA w a k c.chs) (ho : IntsA w oa oc o) : Calls Try.prog 19 #[toolV c a k, .slice oa o.length oc] w (ArcsP w c o) := by
  have hX : (w.alloc (toolObj c a k)).heap.size = w.heap.size + 1 := by simp
  have HB := Lib.hid (below_step (below_new w (toolObj c a k)) (below_new (w.alloc (toolObj c a k)) (.cells #[.slice oa o.length oc] 25)))
  have HT := Lib.hid (box_below (heap_alloc_new w (toolObj c a k)) (below_new (w.alloc (toolObj c a k)) (.cells #[.slice oa o.length oc] 25)))
  have HO := Lib.hid (show ((w.alloc (toolObj c a k)).alloc (.cells #[.slice oa o.length oc] 25)).heap[w.heap.size + 1]? = some (.cells #[.slice oa o.length oc] 25) from by
    have := heap_alloc_new (w.alloc (toolObj c a k)) (.cells #[.slice oa o.length oc] 25); rw [hX] at this; exact this)
  have HOr := Lib.hid (fun (W : World) (hb : Below w.heap.size w W) => cOrdersR_any c a k W (h.below hb))
  have HHa := Lib.hid (fun (W : World) (hb : Below w.heap.size w W) (C : Nat) (q : Option Addr) (qc : Nat) (hq : OrdA W C q qc (ordersT c)) (hx : W.cell? ⟨w.heap.size + 1, 0, none⟩ = some (.slice oa o.length oc)) =>
    hasOrd_any (ordersT c) (fun p hp => by have h1 := (ord_of hp).len; have : validT c = true := (by unfold ordersT at hp; split at hp; assumption; cases hp); have := (validT_iff.1 this).2.2.2.2.1; omega) o q oa C qc oc (w.heap.size + 1) W hq (ho.below hb) hx)
  have HAr := Lib.hid (fun (hm : o ∈ ordersT c) (W : World) (hb : Below w.heap.size w W) => arcsOf_any c (by unfold ordersT at hm; split at hm; assumption; cases hm) o (ord_of hm) a k oa oc W (h.below hb) (ho.below hb))
  have en := enters_of Try.func40 (by kernel_rfl) rfl
  clear h ho hX
  unfold ArcsP
  by_cases hm : o ∈ ordersT c
  · have E1 : arcsR c o = arcsC c o := by unfold arcsR; rw [if_pos hm]
    have E2 : errR c o = 0 := by unfold errR; rw [if_pos hm]
    rw [E1, E2]
    have HAr2 := Lib.hid (HAr.out hm)
    rw [decide_eq_true hm] at HHa
    clear HAr E1 E2 hm
    generalize ordersT c = O at *
    obtain ⟨t0, t1, t2, t3, t4⟩ := toolC_of HT.out
    go_enter Try.func19, Try.ntmps19
    go_wp2_with fail
    refine (HOr.out _ HB.out).mono ?_
    rintro _ w1 ⟨q, qc, rfl, HQ, -, hb1⟩
    have B1 := Lib.hid (below_step HB.out hb1.out)
    have HT1 := Lib.hid (box_below HT.out hb1.out)
    have HO1 := Lib.hid (box_below HO.out hb1.out)
    have HH1 := Lib.hid (HHa.out w1 B1.out _ q qc HQ.out (box_cell HO1.out 0 _ rfl))
    clear hb1 t0 t1 t2 t3 t4 HHa HOr
    go_wp2_with fail
    refine HH1.out.mono ?_
    rintro _ w2 ⟨rfl, hb2⟩
    have B2 := Lib.hid (below_step B1.out hb2)
    obtain ⟨t0, t1, t2, t3, t4⟩ := toolC_of (box_below HT1.out hb2)
    have o0 : w2.cell? ⟨w.heap.size + 1, 0, none⟩ = some (.slice oa o.length oc) := box_cell (box_below HO1.out hb2) 0 _ rfl
    have HA2 := Lib.hid (HAr2.out w2 B2.out)
    clear hb2 HH1 HT1 HO1 HAr2
    go_wp2_with fail
    refine HA2.out.mono ?_
    rintro _ w3 ⟨ra, rk, rfl, h1, h2, h3⟩
    have H1 := Lib.hid h1
    have H2 := Lib.hid (fun x hx => show w.heap.size ≤ x.block ∧ x.block < w3.heap.size from ⟨Nat.le_trans B2.out.size (h2 x hx).1, (h2 x hx).2⟩)
    have H3 := Lib.hid (below_step B2.out h3)
    clear h1 h2 h3 HA2 t0 t1 t2 t3 t4 o0
    go_wp2_with fail
    go_ret2
    exact ⟨ra, rk, rfl, H1.out, H2.out, H3.out⟩
  · have E1 : arcsR c o = [] := by unfold arcsR; rw [if_neg hm]
    have E2 : errR c o = 130 := by unfold errR; rw [if_neg hm]
    rw [E1, E2]
    rw [decide_eq_false hm] at HHa
    clear HAr E1 E2 hm
    generalize ordersT c = O at *
    obtain ⟨t0, t1, t2, t3, t4⟩ := toolC_of HT.out
    go_enter Try.func19, Try.ntmps19
    go_wp2_with fail
    refine (HOr.out _ HB.out).mono ?_
    rintro _ w1 ⟨q, qc, rfl, HQ, -, hb1⟩
    have B1 := Lib.hid (below_step HB.out hb1.out)
    have HO1 := Lib.hid (box_below HO.out hb1.out)
    have HH1 := Lib.hid (HHa.out w1 B1.out _ q qc HQ.out (box_cell HO1.out 0 _ rfl))
    clear hb1 t0 t1 t2 t3 t4 HHa HOr
    go_wp2_with fail
    refine HH1.out.mono ?_
    rintro _ w2 ⟨rfl, hb2⟩
    have B2 := Lib.hid (below_step B1.out hb2)
    clear hb2 HH1
    go_wp2_with fail
    go_ret2
    exact ⟨none, 0, rfl, RowA.nil _ _ _, fun x hx => (by cases hx), B2.out⟩
end Go.Proofs.Ytiolmcnngpaapaa
