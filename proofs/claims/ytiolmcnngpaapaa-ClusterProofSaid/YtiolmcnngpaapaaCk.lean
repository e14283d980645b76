/-
  Check.
-/
import Derived.Test.YtiolmcnngpaapaaAr
import Derived.Test.YtiolmcnngpaapaaVe
import Derived.Test.YtiolmcnngpaapaaIsC
namespace Go.Proofs.Ytiolmcnngpaapaa
open Go.RowKit Go.Shelf Cl
open Cy (Arc)

structure Sch where
  p : Int
  o : List Int
  s : List Int
  q : List Int
abbrev schV (s : Sch) (oa sa qa : Option Addr) (oc sc qc : Nat) : Value := .agg #[.int .i64 s.p, .slice oa s.o.length oc, .slice sa s.s.length sc, .slice qa s.q.length qc]
abbrev schObj (s : Sch) (oa sa qa : Option Addr) (oc sc qc : Nat) : Obj := .cells #[.int .i64 s.p, .slice oa s.o.length oc, .slice sa s.s.length sc, .slice qa s.q.length qc] 30
/-- What Check answers. -/
def checkS (c : Tool) (s : Sch) : Bool :=
  decide (s.o ∈ ordersT c) && (Cy.within s.p 1 1000000 && (Cy.verB (s.o.length : Int) s.p (arcsC c s.o) s.s && ((decide (s.p = 1) && decide (s.q.length = 0)) || Cy.refB (s.o.length : Int) (s.p - 1) (arcsC c s.o) s.q)))
abbrev SchC (X : Nat) (s : Sch) (oa sa qa : Option Addr) (oc sc qc : Nat) (v : World) : Prop :=
  v.cell? ⟨X, 0, none⟩ = some (.int .i64 s.p) ∧ v.cell? ⟨X, 1, none⟩ = some (.slice oa s.o.length oc) ∧ v.cell? ⟨X, 2, none⟩ = some (.slice sa s.s.length sc) ∧ v.cell? ⟨X, 3, none⟩ = some (.slice qa s.q.length qc)
theorem schC_of {X : Nat} {s : Sch} {oa sa qa : Option Addr} {oc sc qc : Nat} {v : World} (h : v.heap[X]? = some (schObj s oa sa qa oc sc qc)) : SchC X s oa sa qa oc sc qc v :=
  ⟨box_cell h 0 _ rfl, box_cell h 1 _ rfl, box_cell h 2 _ rfl, box_cell h 3 _ rfl⟩
theorem okT_of {c : Tool} {o : List Int} (hm : o ∈ ordersT c) : validT c = true := by unfold ordersT at hm; split at hm; assumption; cases hm
theorem ordLen_of {c : Tool} {o : List Int} (hm : o ∈ ordersT c) : 2 ≤ o.length ∧ o.length ≤ 5 := by
  have h1 := (ord_of hm).len
  have := (validT_iff.1 (okT_of hm)).2.2.2.2.1
  omega
set_option maxRecDepth 100000 in
set_option maxHeartbeats 4000000 in
theorem cCheck_any (c : Tool) (s : Sch) (hp : Fits s.p) (a oa sa qa : Option Addr) (k oc sc qc : Nat) (w : World) (h : ChA w a k c.chs) (ho : IntsA w oa oc s.o) (hs : IntsA w sa sc s.s) (hq : IntsA w qa qc s.q) :
    Calls Try.prog 26 #[toolV c a k, schV s oa sa qa oc sc qc] w fun e w' => e = .returned (.bool (checkS c s)) ∧ Below w.heap.size w w' := by
  have hX : (w.alloc (toolObj c a k)).heap.size = w.heap.size + 1 := by simp
  have HB := Lib.hid (below_step (below_new w (toolObj c a k)) (below_new (w.alloc (toolObj c a k)) (schObj s oa sa qa oc sc qc)))
  have HT := Lib.hid (box_below (heap_alloc_new w (toolObj c a k)) (below_new (w.alloc (toolObj c a k)) (schObj s oa sa qa oc sc qc)))
  have HS := Lib.hid (show ((w.alloc (toolObj c a k)).alloc (schObj s oa sa qa oc sc qc)).heap[w.heap.size + 1]? = some (schObj s oa sa qa oc sc qc) from by
    have := heap_alloc_new (w.alloc (toolObj c a k)) (schObj s oa sa qa oc sc qc); rw [hX] at this; exact this)
  have HAr := Lib.hid (fun (W : World) (hb : Below w.heap.size w W) => cArcs_any c s.o a oa k oc W (h.below hb) (ho.below hb))
  have HVe := Lib.hid (fun (W : World) (hb : Below w.heap.size w W) (x : Option Addr) (y : Nat) (L : List Arc) (hA : ArcA W x y L) (h4 : ∀ z, x = some z → z.block < W.heap.size) (hn : s.o.length ≤ 5) => Verify_any (s.o.length : Int) s.p (by unfold Fits; omega) L x y s.s sa sc W hA (hs.below hb) h4)
  have HRe := Lib.hid (fun (W : World) (hb : Below w.heap.size w W) (x : Option Addr) (y : Nat) (L : List Arc) (hA : ArcA W x y L) (hp1 : Fits (s.p - 1)) (hn : s.o.length ≤ 5) => Refutes_any (s.o.length : Int) (s.p - 1) (by unfold Fits; omega) hp1 L x y s.q qa qc W hA (hq.below hb))
  have HW := Lib.hid (cwithin_any s.p 1 1000000)
  have HE : checkS c s = (decide (s.o ∈ ordersT c) && (Cy.within s.p 1 1000000 && (Cy.verB (s.o.length : Int) s.p (arcsC c s.o) s.s && ((decide (s.p = 1) && decide (s.q.length = 0)) || Cy.refB (s.o.length : Int) (s.p - 1) (arcsC c s.o) s.q)))) := rfl
  rw [HE]
  unfold ArcsP at HAr
  clear h ho hs hq HE hX
  obtain ⟨t0, t1, t2, t3, t4⟩ := toolC_of HT.out
  obtain ⟨s0, s1, s2, s3⟩ := schC_of HS.out
  by_cases hm : s.o ∈ ordersT c
  · rw [show arcsR c s.o = arcsC c s.o by unfold arcsR; rw [if_pos hm], show errR c s.o = 0 by unfold errR; rw [if_pos hm]] at HAr
    rw [decide_eq_true hm]
    have hol := ordLen_of hm
    have e0 : ((0 : Int) != 0) = false := by decide
    clear hm
    generalize arcsC c s.o = L at *
    cases hw : Cy.within s.p 1 1000000 with
    | false =>
      rw [hw] at HW
      clear hw
      go_enter Try.func26, Try.ntmps26
      go_wp2_with fail
      refine (HAr.out _ HB.out).mono ?_
      rintro _ w1 ⟨x, y, rfl, h1, h2, h3⟩
      have B1 := Lib.hid (below_step HB.out h3)
      obtain ⟨s0', s1', s2', s3'⟩ := schC_of (box_below HS.out h3)
      clear h1 h2 h3 HAr t0 t1 t2 t3 t4 s0 s1 s2 s3
      go_wp2_with fail
      refine (HW.out _).mono ?_
      rintro _ w1 ⟨rfl, rfl⟩
      go_wp2_with fail
      go_ret
      exact ⟨rfl, B1.out⟩
    | true =>
      have hpb := Cy.within_iff.1 hw
      rw [hw] at HW
      clear hw
      have d1 : IntKind.i64.wrap (s.p - 1) = s.p - 1 := IntWalk.i64_in _ (by omega)
      have hp1 : Fits (s.p - 1) := by unfold Fits; omega
      have HV2 := Lib.hid (fun (W : World) (hb : Below w.heap.size w W) (x : Option Addr) (y : Nat) (hA : ArcA W x y L) (h4 : ∀ z, x = some z → z.block < W.heap.size) => HVe.out W hb x y L hA h4 hol.2)
      have HR2 := Lib.hid (fun (W : World) (hb : Below w.heap.size w W) (x : Option Addr) (y : Nat) (hA : ArcA W x y L) => HRe.out W hb x y L hA hp1 hol.2)
      clear HVe HRe hp1
      generalize Cy.verB (s.o.length : Int) s.p L s.s = V at *
      generalize Cy.refB (s.o.length : Int) (s.p - 1) L s.q = R at *
      cases V with
      | false =>
        go_enter Try.func26, Try.ntmps26
        go_wp2_with fail
        refine (HAr.out _ HB.out).mono ?_
        rintro _ w1 ⟨x, y, rfl, h1, h2, h3⟩
        have B1 := Lib.hid (below_step HB.out h3)
        obtain ⟨s0', s1', s2', s3'⟩ := schC_of (box_below HS.out h3)
        have HV3 := Lib.hid (HV2.out w1 B1.out x y h1 (fun z hz => (h2 z hz).2))
        clear h1 h2 h3 HAr t0 t1 t2 t3 t4 s0 s1 s2 s3
        go_wp2_with fail
        refine (HW.out _).mono ?_
        rintro _ w1 ⟨rfl, rfl⟩
        go_wp2_with fail
        refine HV3.out.mono ?_
        rintro _ w2 ⟨rfl, h3⟩
        have B2 := Lib.hid (below_step B1.out h3)
        clear h3 HV3
        go_wp2_with fail
        go_ret
        exact ⟨rfl, B2.out⟩
      | true =>
        go_enter Try.func26, Try.ntmps26
        go_wp2_with fail
        refine (HAr.out _ HB.out).mono ?_
        rintro _ w1 ⟨x, y, rfl, h1, h2, h3⟩
        have B1 := Lib.hid (below_step HB.out h3)
        have HS1 := Lib.hid (box_below HS.out h3)
        obtain ⟨s0', s1', s2', s3'⟩ := schC_of HS1.out
        have HV3 := Lib.hid (HV2.out w1 B1.out x y h1 (fun z hz => (h2 z hz).2))
        have HA1 := Lib.hid h1
        clear h1 h2 h3 HAr t0 t1 t2 t3 t4 s0 s1 s2 s3
        go_wp2_with fail
        refine (HW.out _).mono ?_
        rintro _ w1 ⟨rfl, rfl⟩
        go_wp2_with fail
        refine HV3.out.mono ?_
        rintro _ w2 ⟨rfl, h3⟩
        have B2 := Lib.hid (below_step B1.out h3)
        obtain ⟨s0, s1, s2, s3⟩ := schC_of (box_below HS1.out h3)
        have HR3 := Lib.hid (HR2.out w2 B2.out x y (HA1.out.below h3))
        clear h3 HV3 s0' s1' s2' s3' HA1 HS1
        by_cases hp1 : s.p = 1
        · have e1 : (s.p == 1) = true := by simp [hp1]
          by_cases hq0 : s.q.length = 0
          · have e2 : ((s.q.length : Int) == 0) = true := by simp [hq0]
            have HE := Lib.hid (show (true && (true && (true && (decide (s.p = 1) && decide (s.q.length = 0) || R)))) = true from by simp [hp1, hq0])
            clear hp1 hq0
            go_wp2_with fail
            go_ret
            exact ⟨ret_bool HE.out.symm, B2.out⟩
          · have e2 : ((s.q.length : Int) == 0) = false := by rw [beq_eq_false_iff_ne]; omega
            have HE := Lib.hid (show (true && (true && (true && (decide (s.p = 1) && decide (s.q.length = 0) || R)))) = R from by simp [hq0])
            clear hp1 hq0
            go_wp2_with fail
            refine HR3.out.mono ?_
            rintro _ w3 ⟨rfl, h3⟩
            have B3 := Lib.hid (below_step B2.out h3)
            clear h3
            go_wp2_with fail
            go_ret
            exact ⟨ret_bool HE.out.symm, B3.out⟩
        · have e1 : (s.p == 1) = false := by simp [hp1]
          have HE := Lib.hid (show (true && (true && (true && (decide (s.p = 1) && decide (s.q.length = 0) || R)))) = R from by simp [hp1])
          clear hp1
          go_wp2_with fail
          refine HR3.out.mono ?_
          rintro _ w3 ⟨rfl, h3⟩
          have B3 := Lib.hid (below_step B2.out h3)
          clear h3
          go_wp2_with fail
          go_ret
          exact ⟨ret_bool HE.out.symm, B3.out⟩
  · rw [show arcsR c s.o = [] by unfold arcsR; rw [if_neg hm], show errR c s.o = 130 by unfold errR; rw [if_neg hm]] at HAr
    rw [decide_eq_false hm]
    clear hm HVe HRe HW
    go_enter Try.func26, Try.ntmps26
    go_wp2_with fail
    refine (HAr.out _ HB.out).mono ?_
    rintro _ w1 ⟨x, y, rfl, h1, h2, h3⟩
    have B1 := Lib.hid (below_step HB.out h3)
    clear h1 h2 h3 HAr t0 t1 t2 t3 t4 s0 s1 s2 s3
    go_wp2_with fail
    go_ret
    exact ⟨rfl, B1.out⟩
end Go.Proofs.Ytiolmcnngpaapaa
