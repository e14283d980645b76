/-
  bent, for all arguments.
  ClusterProof on paper: what is refuted has no starts; an accepted schedule's period is the smallest of its order.
  The walk of ClusterProof: no starts are possible with an accepted schedule's order and a smaller period. No condition beside what the row says.
  ClusterProof: for every input that can be read the call returns true and leaves the input as it was. No condition beside what the row says.
-/
import Derived.Test.YtiolmcnngpaapaaBt
import Derived.Deep.QuietTactic
import Derived.Test.YtiolmcnngpaapaaOp3
namespace Go.Proofs.Ytiolmcnngpaapaa
open Go.RowKit Go.Shelf Cl
open Cy (Arc)

set_option maxRecDepth 100000 in
set_option maxHeartbeats 4000000 in
theorem bent_any (p : Int) (hp : 0 ≤ p ∧ p ≤ 1000000) (o s q : List Int) (oa sa qa : Option Addr) (oc sc qc : Nat) (h0 h1 h2 : Int) (u0 : Fits h0) (u1 : Fits h1) (u2 : Fits h2) (W : World) (hO : IntsA W oa oc o) (hS : IntsA W sa sc s) (hQ : IntsA W qa qc q)
    (eO : o = [] → oa = none ∧ oc = 0) (eS : s = [] → sa = none ∧ sc = 0) (eQ : q = [] → qa = none ∧ qc = 0) (lO : o.length ≤ 1000) (lS : s.length ≤ 1000) (lQ : q.length ≤ 1000) :
    Calls Try.prog 25 #[schV ⟨p, o, s, q⟩ oa sa qa oc sc qc, .agg #[.int .i64 h0, .int .i64 h1, .int .i64 h2]] W (BentP W p) := by
  by_cases h4 : pickZ h0 6 = 4
  · exact bent_swap p hp o s q oa sa qa oc sc qc h0 h1 h2 u0 u1 u2 W hO hS hQ eO eS eQ lO lS lQ h4
  have HB := Lib.hid (show BoxB W p (.slice oa o.length oc) (.slice sa s.length sc) (.slice qa q.length qc) h0 h1 h2 (((W.alloc (bsObj p (.slice oa o.length oc) (.slice sa s.length sc) (.slice qa q.length qc))).alloc (bhObj h0 h1 h2)).alloc zeroSch) from by
    refine ⟨box_below (heap_alloc_new W _) (below_step (below_new _ _) (below_new _ _)), ?_, ?_, below_step (below_new _ _) (below_step (below_new _ _) (below_new _ _))⟩
    · have := heap_alloc_new (W.alloc (bsObj p (.slice oa o.length oc) (.slice sa s.length sc) (.slice qa q.length qc))) (bhObj h0 h1 h2)
      rw [show (W.alloc (bsObj p (.slice oa o.length oc) (.slice sa s.length sc) (.slice qa q.length qc))).heap.size = W.heap.size + 1 by simp] at this
      exact box_below this (below_new _ _)
    · have := heap_alloc_new ((W.alloc (bsObj p (.slice oa o.length oc) (.slice sa s.length sc) (.slice qa q.length qc))).alloc (bhObj h0 h1 h2)) zeroSch
      rw [show ((W.alloc (bsObj p (.slice oa o.length oc) (.slice sa s.length sc) (.slice qa q.length qc))).alloc (bhObj h0 h1 h2)).heap.size = W.heap.size + 2 by simp] at this; exact this)
  have HZ := Lib.hid (show (((W.alloc (bsObj p (.slice oa o.length oc) (.slice sa s.length sc) (.slice qa q.length qc))).alloc (bhObj h0 h1 h2)).alloc zeroSch).heap.size = W.heap.size + 3 by simp)
  have HO := Lib.hid (fun (w : World) (h : Below W.heap.size W w) => hO.below h)
  have HS := Lib.hid (fun (w : World) (h : Below W.heap.size W w) => hS.below h)
  have HQ := Lib.hid (fun (w : World) (h : Below W.heap.size W w) => hQ.below h)
  have EO := Lib.hid eO; have ES := Lib.hid eS; have EQ := Lib.hid eQ
  have HPk := Lib.hid (fun (x n : Int) (hx : Fits x) (hn : 0 < n ∧ n ≤ 1000000000) (w : World) => pick_is x n hx hn w)
  have U0 := Lib.hid u0; have U1 := Lib.hid u1; have U2 := Lib.hid u2
  clear hO hS hQ eO eS eQ u0 u1 u2
  go_enter Try.func25, Try.ntmps25
  go_upto_region 1 with (fail)
  generalize ((W.alloc (bsObj p (.slice oa o.length oc) (.slice sa s.length sc) (.slice qa q.length qc))).alloc (bhObj h0 h1 h2)).alloc zeroSch = w0 at *
  have P1 := Lib.hid (HB.out.below (below_new w0 (.cells #[] 3)))
  have A1 := Lib.hid (HO.out _ P1.out.bel)
  have O1 := Lib.hid (World.ownsRow_lit (base := w0.heap.size) (size := 1) (e := 3) w0 #[] 0 (Nat.le_refl _) (by decide) rfl)
  have lk1 : w0.heap.size ≤ (w0.alloc (.cells #[] 3)).heap.size := by simp
  obtain ⟨k0, k1, k2, k3, k4, k5, k6⟩ := P1.out.cells
  go_wp2_with (at_builtin; refine wpList_append_copy rfl _ _ rfl w0.heap.size _ rfl O1.out oa oc o rfl A1.out EO.out (by omega) lk1 ?_)
  intro a1 c1 x1 j1 hg1
  have hb1 : Below w0.heap.size w0 x1 := (below_new w0 (.cells #[] 3)).grown hg1 (by simp) (fun j e => by simp [Value.ownBlock] at e; omega)
  have PP1 := Lib.hid (HB.out.below hb1)
  have J1 := Lib.hid j1
  clear k0 k1 k2 k3 k4 k5 k6 hg1 lk1 j1 A1 O1
  obtain ⟨k0, k1, k2, k3, k4, k5, k6⟩ := PP1.out.cells
  have kf : x1.frozen? ⟨W.heap.size, 1, none⟩ = false := box_fz PP1.out.box 1
  have kl : W.heap.size < x1.heap.size := lt_of_block PP1.out.box
  have HB1 := Lib.hid (PP1.out.set 1 (.slice a1 o.length c1) rfl)
  have R1 := Lib.hid (J1.out.ch (ch_set x1 W.heap.size 1 (.slice a1 o.length c1)) (fun i hi e => by have h5 := J1.out.lt i hi; have h6 := HZ.out; omega))
  have HZ1 := Lib.hid (show W.heap.size + 3 ≤ (x1.setCell ⟨W.heap.size, 1, none⟩ (.slice a1 o.length c1)).heap.size by have := hb1.size; have h6 := HZ.out; simp only [World.setCell, Array.size_modify]; omega)
  clear PP1 P1 hb1 HB
  go_upto_region 2 with (fail)
  clear k0 k1 k2 k3 k4 k5 k6 kf kl
  generalize x1.setCell ⟨W.heap.size, 1, none⟩ (.slice a1 o.length c1) = w1 at *
  have P2 := Lib.hid (HB1.out.below (below_new w1 (.cells #[] 3)))
  have A2 := Lib.hid (HS.out _ P2.out.bel)
  have O2 := Lib.hid (World.ownsRow_lit (base := w1.heap.size) (size := 1) (e := 3) w1 #[] 0 (Nat.le_refl _) (by decide) rfl)
  have lk2 : w1.heap.size ≤ (w1.alloc (.cells #[] 3)).heap.size := by simp
  obtain ⟨k0, k1, k2, k3, k4, k5, k6⟩ := P2.out.cells
  go_wp2_with (at_builtin; refine wpList_append_copy rfl _ _ rfl w1.heap.size _ rfl O2.out sa sc s rfl A2.out ES.out (by omega) lk2 ?_)
  intro a2 c2 x2 j2 hg2
  have hb2 : Below w1.heap.size w1 x2 := (below_new w1 (.cells #[] 3)).grown hg2 (by simp) (fun j e => by simp [Value.ownBlock] at e; omega)
  have PP2 := Lib.hid (HB1.out.below hb2)
  have J2 := Lib.hid j2
  clear k0 k1 k2 k3 k4 k5 k6 hg2 lk2 j2 A2 O2
  obtain ⟨k0, k1, k2, k3, k4, k5, k6⟩ := PP2.out.cells
  have kf : x2.frozen? ⟨W.heap.size, 2, none⟩ = false := box_fz PP2.out.box 2
  have kl : W.heap.size < x2.heap.size := lt_of_block PP2.out.box
  have HB2 := Lib.hid (PP2.out.set 2 (.slice a2 s.length c2) rfl)
  have R2 := Lib.hid (J2.out.ch (ch_set x2 W.heap.size 2 (.slice a2 s.length c2)) (fun i hi e => by have h5 := J2.out.lt i hi; have h6 := HZ1.out; omega))
  have R1b := Lib.hid ((R1.out.below hb2).ch (ch_set x2 W.heap.size 2 (.slice a2 s.length c2)) (fun i hi e => by have h5 := R1.out.lt i hi; have h6 := HZ.out; omega))
  have HZ2 := Lib.hid (show W.heap.size + 3 ≤ (x2.setCell ⟨W.heap.size, 2, none⟩ (.slice a2 s.length c2)).heap.size by have := hb2.size; have h6 := HZ1.out; simp only [World.setCell, Array.size_modify]; omega)
  clear PP2 P2 hb2 HB1
  go_upto_region 3 with (fail)
  clear k0 k1 k2 k3 k4 k5 k6 kf kl
  generalize x2.setCell ⟨W.heap.size, 2, none⟩ (.slice a2 s.length c2) = w2 at *
  have P3 := Lib.hid (HB2.out.below (below_new w2 (.cells #[] 3)))
  have A3 := Lib.hid (HQ.out _ P3.out.bel)
  have O3 := Lib.hid (World.ownsRow_lit (base := w2.heap.size) (size := 1) (e := 3) w2 #[] 0 (Nat.le_refl _) (by decide) rfl)
  have lk3 : w2.heap.size ≤ (w2.alloc (.cells #[] 3)).heap.size := by simp
  obtain ⟨k0, k1, k2, k3, k4, k5, k6⟩ := P3.out.cells
  go_wp2_with (at_builtin; refine wpList_append_copy rfl _ _ rfl w2.heap.size _ rfl O3.out qa qc q rfl A3.out EQ.out (by omega) lk3 ?_)
  intro a3 c3 x3 j3 hg3
  have hb3 : Below w2.heap.size w2 x3 := (below_new w2 (.cells #[] 3)).grown hg3 (by simp) (fun j e => by simp [Value.ownBlock] at e; omega)
  have PP3 := Lib.hid (HB2.out.below hb3)
  have J3 := Lib.hid j3
  clear k0 k1 k2 k3 k4 k5 k6 hg3 lk3 j3 A3 O3
  obtain ⟨k0, k1, k2, k3, k4, k5, k6⟩ := PP3.out.cells
  have kf : x3.frozen? ⟨W.heap.size, 3, none⟩ = false := box_fz PP3.out.box 3
  have kl : W.heap.size < x3.heap.size := lt_of_block PP3.out.box
  have HB3 := Lib.hid (PP3.out.set 3 (.slice a3 q.length c3) rfl)
  have R3 := Lib.hid (J3.out.ch (ch_set x3 W.heap.size 3 (.slice a3 q.length c3)) (fun i hi e => by have h5 := J3.out.lt i hi; have h6 := HZ2.out; omega))
  have R1c := Lib.hid ((R1b.out.below hb3).ch (ch_set x3 W.heap.size 3 (.slice a3 q.length c3)) (fun i hi e => by have h5 := R1b.out.lt i hi; have h6 := HZ.out; omega))
  have R2c := Lib.hid ((R2.out.below hb3).ch (ch_set x3 W.heap.size 3 (.slice a3 q.length c3)) (fun i hi e => by have h5 := R2.out.lt i hi; have h6 := HZ1.out; omega))
  have HZ3 := Lib.hid (show W.heap.size + 3 ≤ (x3.setCell ⟨W.heap.size, 3, none⟩ (.slice a3 q.length c3)).heap.size by have := hb3.size; have h6 := HZ2.out; simp only [World.setCell, Array.size_modify]; omega)
  clear PP3 P3 hb3 HB2
  go_upto_region 4 with (fail)
  clear k0 k1 k2 k3 k4 k5 k6 kf kl
  generalize x3.setCell ⟨W.heap.size, 3, none⟩ (.slice a3 q.length c3) = w3 at *
  have HR := Lib.hid (show Rows1 (W.heap.size + 3) a1 c1 o.length a2 c2 s.length a3 c3 q.length w3 from ⟨o, s, q, rfl, rfl, rfl, R1c.out.mono (by have := HZ.out; omega), R2c.out.mono HZ1.out, R3.out.mono HZ2.out, fun g hg => ⟨fun e => by have b1 := R1.out.lt g hg; have b2 := R2.out.lt g e; omega, fun e => by have b1 := R1b.out.lt g hg; have b2 := R3.out.lt g e; omega⟩, fun g hg e => by have b1 := R2.out.lt g hg; have b2 := R3.out.lt g e; omega⟩)
  clear R1 R1b R1c R2 R2c R3 J1 J2 J3 HZ HZ1 HZ2 HZ3 EO ES EQ HO HS HQ
  generalize o.length = n1 at *
  generalize s.length = n2 at *
  generalize q.length = n3 at *
  obtain ⟨k0, k1, k2, k3, k4, k5, k6⟩ := HB3.out.cells
  go_wp2_with fail
  refine (HPk.out h0 6 U0.out (by omega) w3).mono ?_
  rintro _ w4 ⟨rfl, rfl⟩
  have hd := pickZ_bd (c := h0) (n := 6) (by omega)
  generalize pickZ h0 6 = d at *
  obtain rfl | rfl | rfl | rfl | rfl : d = 0 ∨ d = 1 ∨ d = 2 ∨ d = 3 ∨ d = 5 := by omega
  · have hz := pickZ_bd (c := h1) (n := 3) (by omega)
    have HP := Lib.hid (HPk.out h1 3 U1.out (by omega))
    generalize pickZ h1 3 = z at *
    have d1 : IntKind.i64.wrap (p + 1) = p + 1 := IntWalk.i64_in _ (by omega)
    have d2 : IntKind.i64.wrap (p + 1 + z) = p + 1 + z := IntWalk.i64_in _ (by omega)
    have kf : w4.frozen? ⟨W.heap.size, 0, none⟩ = false := box_fz HB3.out.box 0
    have kl : W.heap.size < w4.heap.size := lt_of_block HB3.out.box
    have HB5 := Lib.hid ((HB3.out.set 0 (.int .i64 (p + 1 + z)) rfl).below (Below.refl _ _).drew)
    have HR5 := Lib.hid ((HR.out.ch (ch_set w4 W.heap.size 0 (.int .i64 (p + 1 + z))) (fun i e => by omega)).drew)
    clear HB3 HR
    go_upto_region 10 with (fail)
    go_still_tail 8, (by kernel_rfl)
    repeat still_step
    still_call (HP.out _)
    repeat still_step
    refine wpStill_nil ?_
    change wpList _ _ _ _ _ (World.drew _)
    go_upto_region 22 with (fail)
    generalize (w4.setCell ⟨W.heap.size, 0, none⟩ (.int .i64 (p + 1 + z))).drew = w5 at *
    clear k0 k1 k2 k3 k4 k5 k6 kf kl
    have q0 := Lib.hid (HR5.out.done HB5.out (p0 := p) (by omega))
    obtain ⟨k0, k1, k2, k3, k4, k5, k6⟩ := HB5.out.cells
    have z0 : w5.cell? ⟨W.heap.size + 2, 0, none⟩ = some (.int .i64 0) := box_cell HB5.out.res 0 _ rfl
    have f0 : w5.frozen? ⟨W.heap.size + 2, 0, none⟩ = false := box_fz HB5.out.res 0
    have z1 : w5.cell? ⟨W.heap.size + 2, 1, none⟩ = some (.slice none 0 0) := box_cell HB5.out.res 1 _ rfl
    have f1 : w5.frozen? ⟨W.heap.size + 2, 1, none⟩ = false := box_fz HB5.out.res 1
    have z2 : w5.cell? ⟨W.heap.size + 2, 2, none⟩ = some (.slice none 0 0) := box_cell HB5.out.res 2 _ rfl
    have f2 : w5.frozen? ⟨W.heap.size + 2, 2, none⟩ = false := box_fz HB5.out.res 2
    have z3 : w5.cell? ⟨W.heap.size + 2, 3, none⟩ = some (.slice none 0 0) := box_cell HB5.out.res 3 _ rfl
    have f3 : w5.frozen? ⟨W.heap.size + 2, 3, none⟩ = false := box_fz HB5.out.res 3
    have lz : W.heap.size + 2 < w5.heap.size := lt_of_block HB5.out.res
    clear HB5 HR5
    go_wp2_with fail
    have hg := grown_trans (grown_trans (grown_trans (grown_set (w := w5) (W.heap.size + 2) 0 (.int .i64 (p + 1 + z))) (grown_set _ 1 (.slice a1 n1 c1))) (grown_set _ 2 (.slice a2 n2 c2))) (grown_set _ 3 (.slice a3 n3 c3))
    exact bodyPost_ret (v := .agg #[.int .i64 (p + 1 + z), .slice a1 n1 c1, .slice a2 n2 c2, .slice a3 n3 c3]) (by simp [results, Try.results25, go_sem, z0, z1, z2, z3]) rfl (q0.out _ hg)
  · have d1 : IntKind.i64.wrap (p - 1) = p - 1 := IntWalk.i64_in _ (by omega)
    have kf : w4.frozen? ⟨W.heap.size, 0, none⟩ = false := box_fz HB3.out.box 0
    have kl : W.heap.size < w4.heap.size := lt_of_block HB3.out.box
    have HB5 := Lib.hid (HB3.out.set 0 (.int .i64 (p - 1)) rfl)
    have HR5 := Lib.hid (HR.out.ch (ch_set w4 W.heap.size 0 (.int .i64 (p - 1))) (fun i e => by omega))
    clear HB3 HR
    go_upto_region 22 with (fail)
    generalize w4.setCell ⟨W.heap.size, 0, none⟩ (.int .i64 (p - 1)) = w5 at *
    clear k0 k1 k2 k3 k4 k5 k6 kf kl
    have q0 := Lib.hid (HR5.out.done HB5.out (p0 := p) (by omega))
    obtain ⟨k0, k1, k2, k3, k4, k5, k6⟩ := HB5.out.cells
    have z0 : w5.cell? ⟨W.heap.size + 2, 0, none⟩ = some (.int .i64 0) := box_cell HB5.out.res 0 _ rfl
    have f0 : w5.frozen? ⟨W.heap.size + 2, 0, none⟩ = false := box_fz HB5.out.res 0
    have z1 : w5.cell? ⟨W.heap.size + 2, 1, none⟩ = some (.slice none 0 0) := box_cell HB5.out.res 1 _ rfl
    have f1 : w5.frozen? ⟨W.heap.size + 2, 1, none⟩ = false := box_fz HB5.out.res 1
    have z2 : w5.cell? ⟨W.heap.size + 2, 2, none⟩ = some (.slice none 0 0) := box_cell HB5.out.res 2 _ rfl
    have f2 : w5.frozen? ⟨W.heap.size + 2, 2, none⟩ = false := box_fz HB5.out.res 2
    have z3 : w5.cell? ⟨W.heap.size + 2, 3, none⟩ = some (.slice none 0 0) := box_cell HB5.out.res 3 _ rfl
    have f3 : w5.frozen? ⟨W.heap.size + 2, 3, none⟩ = false := box_fz HB5.out.res 3
    have lz : W.heap.size + 2 < w5.heap.size := lt_of_block HB5.out.res
    clear HB5 HR5
    go_wp2_with fail
    have hg := grown_trans (grown_trans (grown_trans (grown_set (w := w5) (W.heap.size + 2) 0 (.int .i64 (p - 1))) (grown_set _ 1 (.slice a1 n1 c1))) (grown_set _ 2 (.slice a2 n2 c2))) (grown_set _ 3 (.slice a3 n3 c3))
    exact bodyPost_ret (v := .agg #[.int .i64 (p - 1), .slice a1 n1 c1, .slice a2 n2 c2, .slice a3 n3 c3]) (by simp [results, Try.results25, go_sem, z0, z1, z2, z3]) rfl (q0.out _ hg)
  · by_cases hn : 0 < n2
    · obtain ⟨g, rfl, hg1, hg2, hcl, hst⟩ := HR.out.atS hn
      have i9 : (0 : Int) < (n2 : Int) := by omega
      have hjb := pickZ_bd (c := h1) (n := (n2 : Int)) i9
      have HP1 := Lib.hid (HPk.out h1 n2 U1.out (by omega))
      obtain ⟨j, hj⟩ : ∃ j : Nat, pickZ h1 n2 = j := ⟨(pickZ h1 n2).toNat, by omega⟩
      rw [hj] at HP1 hjb
      clear hj
      obtain ⟨z, zc, zf⟩ := hcl j (by omega)
      have i0 : (0 : Int) ≤ (j : Int) := by omega
      have i1 : (j : Int) < (n2 : Int) := by omega
      have HP2 := Lib.hid (HPk.out h2 9 U2.out (by omega))
      have hy := pickZ_bd (c := h2) (n := 9) (by omega)
      generalize pickZ h2 9 = y at *
      have d1 : IntKind.i64.wrap (y - 4) = y - 4 := IntWalk.i64_in _ (by omega)
      obtain ⟨t, d2⟩ : ∃ t, IntKind.i64.wrap (z + (y - 4)) = t := ⟨_, rfl⟩
      have HB5 := Lib.hid ((HB3.out.ch (ch_set w4 g j (.int .i64 (t))) (fun i e => by omega)).below (Below.refl _ _).drew)
      have HR5 := Lib.hid ((hst j (t)).drew)
      clear HB3 HR hst hcl
      go_upto_region 15 with (fail)
      go_still_tail 16, (by kernel_rfl)
      repeat still_step
      still_call (HP1.out _)
      repeat still_step
      still_call (HP2.out _)
      repeat still_step
      refine wpStill_nil ?_
      change wpList _ _ _ _ _ (World.drew _)
      go_upto_region 22 with (fail)
      generalize (w4.setCell ⟨g, j, none⟩ (.int .i64 (t))).drew = w5 at *
      clear k0 k1 k2 k3 k4 k5 k6 zc zf
      have q0 := Lib.hid (HR5.out.done HB5.out (p0 := p) (by omega))
      obtain ⟨k0, k1, k2, k3, k4, k5, k6⟩ := HB5.out.cells
      have z0 : w5.cell? ⟨W.heap.size + 2, 0, none⟩ = some (.int .i64 0) := box_cell HB5.out.res 0 _ rfl
      have f0 : w5.frozen? ⟨W.heap.size + 2, 0, none⟩ = false := box_fz HB5.out.res 0
      have z1 : w5.cell? ⟨W.heap.size + 2, 1, none⟩ = some (.slice none 0 0) := box_cell HB5.out.res 1 _ rfl
      have f1 : w5.frozen? ⟨W.heap.size + 2, 1, none⟩ = false := box_fz HB5.out.res 1
      have z2 : w5.cell? ⟨W.heap.size + 2, 2, none⟩ = some (.slice none 0 0) := box_cell HB5.out.res 2 _ rfl
      have f2 : w5.frozen? ⟨W.heap.size + 2, 2, none⟩ = false := box_fz HB5.out.res 2
      have z3 : w5.cell? ⟨W.heap.size + 2, 3, none⟩ = some (.slice none 0 0) := box_cell HB5.out.res 3 _ rfl
      have f3 : w5.frozen? ⟨W.heap.size + 2, 3, none⟩ = false := box_fz HB5.out.res 3
      have lz : W.heap.size + 2 < w5.heap.size := lt_of_block HB5.out.res
      clear HB5 HR5
      go_wp2_with fail
      have hg := grown_trans (grown_trans (grown_trans (grown_set (w := w5) (W.heap.size + 2) 0 (.int .i64 (p))) (grown_set _ 1 (.slice a1 n1 c1))) (grown_set _ 2 (.slice (some ⟨g, 0, none⟩) n2 c2))) (grown_set _ 3 (.slice a3 n3 c3))
      exact bodyPost_ret (v := .agg #[.int .i64 (p), .slice a1 n1 c1, .slice (some ⟨g, 0, none⟩) n2 c2, .slice a3 n3 c3]) (by simp [results, Try.results25, go_sem, z0, z1, z2, z3]) rfl (q0.out _ hg)
    · obtain rfl : n2 = 0 := by omega
      go_upto_region 22 with (fail)
      clear k0 k1 k2 k3 k4 k5 k6
      have q0 := Lib.hid (HR.out.done HB3.out (p0 := p) (by omega))
      obtain ⟨k0, k1, k2, k3, k4, k5, k6⟩ := HB3.out.cells
      have z0 : w4.cell? ⟨W.heap.size + 2, 0, none⟩ = some (.int .i64 0) := box_cell HB3.out.res 0 _ rfl
      have f0 : w4.frozen? ⟨W.heap.size + 2, 0, none⟩ = false := box_fz HB3.out.res 0
      have z1 : w4.cell? ⟨W.heap.size + 2, 1, none⟩ = some (.slice none 0 0) := box_cell HB3.out.res 1 _ rfl
      have f1 : w4.frozen? ⟨W.heap.size + 2, 1, none⟩ = false := box_fz HB3.out.res 1
      have z2 : w4.cell? ⟨W.heap.size + 2, 2, none⟩ = some (.slice none 0 0) := box_cell HB3.out.res 2 _ rfl
      have f2 : w4.frozen? ⟨W.heap.size + 2, 2, none⟩ = false := box_fz HB3.out.res 2
      have z3 : w4.cell? ⟨W.heap.size + 2, 3, none⟩ = some (.slice none 0 0) := box_cell HB3.out.res 3 _ rfl
      have f3 : w4.frozen? ⟨W.heap.size + 2, 3, none⟩ = false := box_fz HB3.out.res 3
      have lz : W.heap.size + 2 < w4.heap.size := lt_of_block HB3.out.res
      clear HB3 HR
      go_wp2_with fail
      have hg := grown_trans (grown_trans (grown_trans (grown_set (w := w4) (W.heap.size + 2) 0 (.int .i64 (p))) (grown_set _ 1 (.slice a1 n1 c1))) (grown_set _ 2 (.slice a2 0 c2))) (grown_set _ 3 (.slice a3 n3 c3))
      exact bodyPost_ret (v := .agg #[.int .i64 (p), .slice a1 n1 c1, .slice a2 0 c2, .slice a3 n3 c3]) (by simp [results, Try.results25, go_sem, z0, z1, z2, z3]) rfl (q0.out _ hg)
  · by_cases hn : 0 < n3
    · obtain ⟨g, rfl, hg1, hg2, hcl, hst⟩ := HR.out.atQ hn
      have i9 : (0 : Int) < (n3 : Int) := by omega
      have hjb := pickZ_bd (c := h1) (n := (n3 : Int)) i9
      have HP1 := Lib.hid (HPk.out h1 n3 U1.out (by omega))
      obtain ⟨j, hj⟩ : ∃ j : Nat, pickZ h1 n3 = j := ⟨(pickZ h1 n3).toNat, by omega⟩
      rw [hj] at HP1 hjb
      clear hj
      obtain ⟨z, zc, zf⟩ := hcl j (by omega)
      have i0 : (0 : Int) ≤ (j : Int) := by omega
      have i1 : (j : Int) < (n3 : Int) := by omega
      have HP2 := Lib.hid (HPk.out h2 13 U2.out (by omega))
      have hy := pickZ_bd (c := h2) (n := 13) (by omega)
      generalize pickZ h2 13 = y at *
      have d1 : IntKind.i64.wrap (y - 1) = y - 1 := IntWalk.i64_in _ (by omega)
      have HB5 := Lib.hid ((HB3.out.ch (ch_set w4 g j (.int .i64 (y - 1))) (fun i e => by omega)).below (Below.refl _ _).drew)
      have HR5 := Lib.hid ((hst j (y - 1)).drew)
      clear HB3 HR hst hcl
      go_upto_region 18 with (fail)
      go_still_tail 12, (by kernel_rfl)
      repeat still_step
      still_call (HP1.out _)
      repeat still_step
      still_call (HP2.out _)
      repeat still_step
      refine wpStill_nil ?_
      change wpList _ _ _ _ _ (World.drew _)
      go_upto_region 22 with (fail)
      generalize (w4.setCell ⟨g, j, none⟩ (.int .i64 (y - 1))).drew = w5 at *
      clear k0 k1 k2 k3 k4 k5 k6 zc zf
      have q0 := Lib.hid (HR5.out.done HB5.out (p0 := p) (by omega))
      obtain ⟨k0, k1, k2, k3, k4, k5, k6⟩ := HB5.out.cells
      have z0 : w5.cell? ⟨W.heap.size + 2, 0, none⟩ = some (.int .i64 0) := box_cell HB5.out.res 0 _ rfl
      have f0 : w5.frozen? ⟨W.heap.size + 2, 0, none⟩ = false := box_fz HB5.out.res 0
      have z1 : w5.cell? ⟨W.heap.size + 2, 1, none⟩ = some (.slice none 0 0) := box_cell HB5.out.res 1 _ rfl
      have f1 : w5.frozen? ⟨W.heap.size + 2, 1, none⟩ = false := box_fz HB5.out.res 1
      have z2 : w5.cell? ⟨W.heap.size + 2, 2, none⟩ = some (.slice none 0 0) := box_cell HB5.out.res 2 _ rfl
      have f2 : w5.frozen? ⟨W.heap.size + 2, 2, none⟩ = false := box_fz HB5.out.res 2
      have z3 : w5.cell? ⟨W.heap.size + 2, 3, none⟩ = some (.slice none 0 0) := box_cell HB5.out.res 3 _ rfl
      have f3 : w5.frozen? ⟨W.heap.size + 2, 3, none⟩ = false := box_fz HB5.out.res 3
      have lz : W.heap.size + 2 < w5.heap.size := lt_of_block HB5.out.res
      clear HB5 HR5
      go_wp2_with fail
      have hg := grown_trans (grown_trans (grown_trans (grown_set (w := w5) (W.heap.size + 2) 0 (.int .i64 (p))) (grown_set _ 1 (.slice a1 n1 c1))) (grown_set _ 2 (.slice a2 n2 c2))) (grown_set _ 3 (.slice (some ⟨g, 0, none⟩) n3 c3))
      exact bodyPost_ret (v := .agg #[.int .i64 (p), .slice a1 n1 c1, .slice a2 n2 c2, .slice (some ⟨g, 0, none⟩) n3 c3]) (by simp [results, Try.results25, go_sem, z0, z1, z2, z3]) rfl (q0.out _ hg)
    · obtain rfl : n3 = 0 := by omega
      go_upto_region 22 with (fail)
      clear k0 k1 k2 k3 k4 k5 k6
      have q0 := Lib.hid (HR.out.done HB3.out (p0 := p) (by omega))
      obtain ⟨k0, k1, k2, k3, k4, k5, k6⟩ := HB3.out.cells
      have z0 : w4.cell? ⟨W.heap.size + 2, 0, none⟩ = some (.int .i64 0) := box_cell HB3.out.res 0 _ rfl
      have f0 : w4.frozen? ⟨W.heap.size + 2, 0, none⟩ = false := box_fz HB3.out.res 0
      have z1 : w4.cell? ⟨W.heap.size + 2, 1, none⟩ = some (.slice none 0 0) := box_cell HB3.out.res 1 _ rfl
      have f1 : w4.frozen? ⟨W.heap.size + 2, 1, none⟩ = false := box_fz HB3.out.res 1
      have z2 : w4.cell? ⟨W.heap.size + 2, 2, none⟩ = some (.slice none 0 0) := box_cell HB3.out.res 2 _ rfl
      have f2 : w4.frozen? ⟨W.heap.size + 2, 2, none⟩ = false := box_fz HB3.out.res 2
      have z3 : w4.cell? ⟨W.heap.size + 2, 3, none⟩ = some (.slice none 0 0) := box_cell HB3.out.res 3 _ rfl
      have f3 : w4.frozen? ⟨W.heap.size + 2, 3, none⟩ = false := box_fz HB3.out.res 3
      have lz : W.heap.size + 2 < w4.heap.size := lt_of_block HB3.out.res
      clear HB3 HR
      go_wp2_with fail
      have hg := grown_trans (grown_trans (grown_trans (grown_set (w := w4) (W.heap.size + 2) 0 (.int .i64 (p))) (grown_set _ 1 (.slice a1 n1 c1))) (grown_set _ 2 (.slice a2 n2 c2))) (grown_set _ 3 (.slice a3 0 c3))
      exact bodyPost_ret (v := .agg #[.int .i64 (p), .slice a1 n1 c1, .slice a2 n2 c2, .slice a3 0 c3]) (by simp [results, Try.results25, go_sem, z0, z1, z2, z3]) rfl (q0.out _ hg)
  · clear k0 k1 k2 k3 k4 k5 k6
    have HP1 := Lib.hid (HPk.out h1 50 U1.out (by omega))
    have hz := pickZ_bd (c := h1) (n := 50) (by omega)
    generalize pickZ h1 50 = z at *
    go_wp2_with fail
    go_loopw [5] (fun iv wr => ∃ i : Nat, i ≤ n2 ∧ iv = .int .i64 (i : Int) ∧ Hid (BoxB W p (.slice a1 n1 c1) (.slice a2 n2 c2) (.slice a3 n3 c3) h0 h1 h2 wr) ∧ Hid (Rows1 (W.heap.size + 3) a1 c1 n1 a2 c2 n2 a3 c3 n3 wr)) (fun iv _ => n2 - (intOf iv).toNat)
    case atStart => exact ⟨0, Nat.zero_le _, rfl, HB3, HR⟩
    case round =>
      clear HB3 HR
      obtain ⟨i, hi, rfl, HB4, HR4⟩ := hrel
      obtain ⟨k0, k1, k2, k3, k4, k5, k6⟩ := HB4.out.cells
      have i0 : (0 : Int) ≤ (i : Int) := by omega
      by_cases hlt : i < n2
      · have i1 : (i : Int) < (n2 : Int) := by omega
        obtain ⟨g, rfl, hg1, hg2, hcl, hst⟩ := HR4.out.atS (by omega)
        obtain ⟨x, xc, xf⟩ := hcl i hlt
        obtain ⟨t, d1⟩ : ∃ t, IntKind.i64.wrap (x + z) = t := ⟨_, rfl⟩
        have d2 : IntKind.i64.wrap ((i : Int) + 1) = (i : Int) + 1 := IntWalk.i64_in _ (by omega)
        have HB5 := Lib.hid ((HB4.out.ch (ch_set wr g i (.int .i64 t)) (fun i e => by omega)).below (Below.refl _ _).drew)
        have HR5 := Lib.hid ((hst i t).drew)
        clear HB4 HR4 hst hcl
        go_upto_region 8 with (fail)
        go_still_tail 13, (by kernel_rfl)
        repeat still_step
        still_call (HP1.out _)
        repeat still_step
        refine wpStill_nil ?_
        change wpList _ _ _ _ _ (World.drew _)
        go_upto_region 7 with (fail)
        generalize (wr.setCell ⟨g, i, none⟩ (.int .i64 t)).drew = w5 at *
        clear k0 k1 k2 k3 k4 k5 k6 xc xf
        go_wp2_with fail
        go_roundw
        case rel => exact ⟨i + 1, by omega, by go_num, HB5, HR5⟩
        case measure => simp [intOf]; omega
      · have i1 : ¬ (i : Int) < (n2 : Int) := by omega
        go_upto_region 22 with (fail)
        clear k0 k1 k2 k3 k4 k5 k6
        have q0 := Lib.hid (HR4.out.done HB4.out (p0 := p) (by omega))
        obtain ⟨k0, k1, k2, k3, k4, k5, k6⟩ := HB4.out.cells
        have z0 : wr.cell? ⟨W.heap.size + 2, 0, none⟩ = some (.int .i64 0) := box_cell HB4.out.res 0 _ rfl
        have f0 : wr.frozen? ⟨W.heap.size + 2, 0, none⟩ = false := box_fz HB4.out.res 0
        have z1 : wr.cell? ⟨W.heap.size + 2, 1, none⟩ = some (.slice none 0 0) := box_cell HB4.out.res 1 _ rfl
        have f1 : wr.frozen? ⟨W.heap.size + 2, 1, none⟩ = false := box_fz HB4.out.res 1
        have z2 : wr.cell? ⟨W.heap.size + 2, 2, none⟩ = some (.slice none 0 0) := box_cell HB4.out.res 2 _ rfl
        have f2 : wr.frozen? ⟨W.heap.size + 2, 2, none⟩ = false := box_fz HB4.out.res 2
        have z3 : wr.cell? ⟨W.heap.size + 2, 3, none⟩ = some (.slice none 0 0) := box_cell HB4.out.res 3 _ rfl
        have f3 : wr.frozen? ⟨W.heap.size + 2, 3, none⟩ = false := box_fz HB4.out.res 3
        have lz : W.heap.size + 2 < wr.heap.size := lt_of_block HB4.out.res
        clear HB4 HR4
        go_wp2_with fail
        have hg := grown_trans (grown_trans (grown_trans (grown_set (w := wr) (W.heap.size + 2) 0 (.int .i64 (p))) (grown_set _ 1 (.slice a1 n1 c1))) (grown_set _ 2 (.slice a2 n2 c2))) (grown_set _ 3 (.slice a3 n3 c3))
        exact bodyPost_ret (v := .agg #[.int .i64 (p), .slice a1 n1 c1, .slice a2 n2 c2, .slice a3 n3 c3]) (by simp [results, Try.results25, go_sem, z0, z1, z2, z3]) rfl (q0.out _ hg)
end Go.Proofs.Ytiolmcnngpaapaa

namespace Go.Proofs.Ytiolmcnngpaapaa
open Go.RowKit Go.Shelf Cl
open Cy (Arc)

theorem foll_sum {p : Int} {L : List Arc} {x : Nat → Int} (hF : Cy.Feas p L x) : ∀ (c : List Int) (v : Int), Cy.foll L v c = true → c ≠ [] → x v.toNat + Cy.sumOf (Cy.len p) L c ≤ x (Cy.lastTo L c).toNat
  | [], _, _, h => absurd rfl h
  | y :: c, v, hf, _ => by
    unfold Cy.foll at hf
    cases hy : L[y.toNat]? with
    | none => rw [hy] at hf; cases hf
    | some a =>
      rw [hy] at hf
      simp only [Bool.and_eq_true, decide_eq_true_eq] at hf
      obtain ⟨rfl, h2⟩ := hf
      have ha := hF a (List.mem_of_getElem? hy)
      have hg : L.getD y.toNat ⟨0, 0, 0, 0⟩ = a := by rw [List.getD_eq_getElem?_getD, hy]; rfl
      have hs : Cy.sumOf (Cy.len p) L (y :: c) = Cy.len p a + Cy.sumOf (Cy.len p) L c := by
        unfold Cy.sumOf; rw [List.map_cons, List.sum_cons, hg]
      by_cases hc : c = []
      · subst hc
        have hl : Cy.lastTo L [y] = a.t := by unfold Cy.lastTo; simp [hy]
        rw [hs, hl]
        have : Cy.sumOf (Cy.len p) L [] = 0 := rfl
        omega
      · have ih := foll_sum hF c a.t h2 hc
        have hl : Cy.lastTo L (y :: c) = Cy.lastTo L c := by unfold Cy.lastTo; rw [List.getLast?_cons_of_ne_nil hc]
        rw [hs, hl]; omega
theorem ref_not {n p : Int} {L : List Arc} {c : List Int} (h : Cy.refB n p L c = true) {x : Nat → Int} (hF : Cy.Feas p L x) : False := by
  unfold Cy.refB Cy.isCyc at h
  simp only [Bool.and_eq_true, decide_eq_true_eq] at h
  obtain ⟨⟨_, ⟨h1, _⟩, h2⟩, h3⟩ := h
  have hc : c ≠ [] := fun e => by subst e; simp [Cy.within] at h1
  have := foll_sum hF c _ h2 hc
  omega
/-- An accepted schedule: no period below it is possible in its order. -/
theorem low_all {c : Tool} {t : Sch} (h : checkS c t = true) : t.o ∈ ordersT c ∧ (1 ≤ t.p ∧ t.p ≤ 1000000) ∧ ∀ m, 1 ≤ m → m < t.p → feasO c t.o m = false ∧ ∀ y, Cy.verB (t.o.length : Int) m (arcsC c t.o) y = false := by
  unfold checkS at h
  simp only [Bool.and_eq_true, decide_eq_true_eq, Bool.or_eq_true] at h
  obtain ⟨hm, hw, hv, hr⟩ := h
  have hp := Cy.within_iff.1 hw
  obtain ⟨hva, hor⟩ := mem_valid hm
  have hAv := arcsC_valid hva hor
  refine ⟨hm, hp, fun m m1 m2 => ?_⟩
  have hr2 : Cy.refB (t.o.length : Int) (t.p - 1) (arcsC c t.o) t.q = true := by
    rcases hr with ⟨e, -⟩ | hr
    · omega
    · exact hr
  have hno : feasO c t.o m = false := by
    rw [Bool.eq_false_iff]
    intro hf
    have hft : feasO c t.o t.p = true := (feasO_iff hm (by omega)).2 ⟨_, feas_of hv⟩
    have hfl : feasO c t.o (t.p - 1) = true := convex hAv (per1 (p := m) (by omega)) (per1 (p := t.p - 1) (by omega)) (per1 (p := t.p) (by omega)) (by omega) (by omega) hf hft
    obtain ⟨x, hx⟩ := (feasO_iff hm (by omega)).1 hfl
    exact ref_not hr2 hx
  refine ⟨hno, fun y => ?_⟩
  rw [Bool.eq_false_iff]
  intro hy
  have := (feasO_iff hm (p := m) (by omega)).2 ⟨_, feas_of hy⟩
  rw [hno] at this; cases this
end Go.Proofs.Ytiolmcnngpaapaa

namespace Go.Proofs.Ytiolmcnngpaapaa
open Go.RowKit Go.Shelf Cl
open Cy (Arc)

/-- What the law's walk keeps: the tool, the boxes of its arguments. -/
structure EnvC (W : World) (c : Tool) (a : Option Addr) (k b1 : Nat) (h0 h1 h2 s0 s1 s2 s3 s4 : Int) (w : World) : Prop where
  tool : w.heap[b1]? = some (tlObj c c.blades a k)
  ch : ChA w a k c.chs
  how : w.heap[W.heap.size + 1]? = some (bhObj h0 h1 h2)
  sts : w.heap[W.heap.size + 2]? = some (fiveObj s0 s1 s2 s3 s4)
  bel : Below W.heap.size W w
theorem EnvC.below {W : World} {c : Tool} {a : Option Addr} {k b1 : Nat} {h0 h1 h2 s0 s1 s2 s3 s4 : Int} {w w' : World} (h : EnvC W c a k b1 h0 h1 h2 s0 s1 s2 s3 s4 w) (hb : Below w.heap.size w w') : EnvC W c a k b1 h0 h1 h2 s0 s1 s2 s3 s4 w' :=
  ⟨box_below h.tool hb, h.ch.below hb, box_below h.how hb, box_below h.sts hb, below_step h.bel hb⟩
theorem EnvC.set {W : World} {c : Tool} {a : Option Addr} {k b1 : Nat} {h0 h1 h2 s0 s1 s2 s3 s4 : Int} {w : World} (h : EnvC W c a k b1 h0 h1 h2 s0 s1 s2 s3 s4 w) {b3 : Nat} (o : Nat) (v : Value) (hb : W.heap.size + 3 ≤ b3) (hb1 : b1 ≠ b3) (ha : ∀ x, a = some x → x.block ≠ b3) : EnvC W c a k b1 h0 h1 h2 s0 s1 s2 s3 s4 (w.setCell ⟨b3, o, none⟩ v) := by
  have hc := ch_set w b3 o v
  exact ⟨(hc.block _ (lt_of_block h.tool) hb1).trans h.tool, h.ch.ch hc ha, (hc.block _ (lt_of_block h.how) (by omega)).trans h.how, (hc.block _ (lt_of_block h.sts) (by omega)).trans h.sts, h.bel.trans (hc.below h.bel.size fun k hk => by omega)⟩
/-- The starts and the proof of a proved schedule. -/
theorem proved_parts {c : Tool} {p : Int} {o : List Int} (hm : o ∈ ordersT c) (hp : 1 ≤ p ∧ p ≤ 1000000) (hy : feasO c o p = true) (hn : 1 < p → feasO c o (p - 1) = false) :
    (Cy.lvS (o.length : Int) p (arcsC c o)).length = o.length ∧ (1 < p → 1 ≤ (natsI (Cy.lvC (o.length : Int) (p - 1) (arcsC c o))).length ∧ (natsI (Cy.lvC (o.length : Int) (p - 1) (arcsC c o))).length ≤ 200) := by
  obtain ⟨hv, ho⟩ := mem_valid hm
  have hl := ordLen_of hm
  have hva := arcsC_valid hv ho
  have hch := (validT_iff.1 hv).2.2.2.2.1
  have hal : (arcsC c o).length ≤ 40 := by rw [arcsC_len]; omega
  refine ⟨?_, fun h1 => ?_⟩
  · have hd := dual_facts hva (per1 (p := p) (by omega)) (by omega) hal
    have hlv : Cy.lvB ((o.length : Nat) : Int) p (arcsC c o) = true := by rw [lvB_is hva (per1 (p := p) (by omega))]; exact hy
    have h2 := hd.1
    rw [hlv] at h2
    unfold Cy.verB at h2
    simp only [Bool.and_eq_true, decide_eq_true_eq] at h2
    omega
  · have hd2 := dual_facts hva (per1 (p := p - 1) (by omega)) (by omega) hal
    have hlv2 : Cy.lvB ((o.length : Nat) : Int) (p - 1) (arcsC c o) = false := by rw [lvB_is hva (per1 (p := p - 1) (by omega))]; exact hn h1
    have h2 := hd2.2.1
    rw [hlv2] at h2
    unfold Cy.refB Cy.isCyc at h2
    simp only [Bool.not_false, Bool.and_eq_true, decide_eq_true_eq] at h2
    have := Cy.within_iff.1 h2.1.2.1.1
    omega
set_option maxRecDepth 100000 in
set_option maxHeartbeats 4000000 in
theorem proof_law (x0 x1 x2 x3 x4 : Int) (xa : Option Addr) (xc : Nat) (X : List (List Int)) (wh : Int) (h0 h1 h2 : Int) (le : Int) (s0 s1 s2 s3 s4 : Int) (W : World) (u0 : Fits x0) (u1 : Fits x1) (u2 : Fits x2) (u3 : Fits x3) (u4 : Fits x4) (hX : ArrsA 2 W xa xc X) (uw : Fits wh) (v0 : Fits h0) (v1 : Fits h1) (v2 : Fits h2) (ul : Fits le)
    (r0 : Fits s0) (r1 : Fits s1) (r2 : Fits s2) (r3 : Fits s3) (r4 : Fits s4) :
    Calls Try.prog 7 #[fiveV x0 x1 x2 x3 x4, .slice xa X.length xc, .int .i64 wh, .agg #[.int .i64 h0, .int .i64 h1, .int .i64 h2], .int .i64 le, fiveV s0 s1 s2 s3 s4] W fun e w' => e = .returned (.bool true) ∧ Below W.heap.size W w' := by
  have hv0 := mkT_valid x0 x1 x2 x3 x4 X
  have HMk := Lib.hid (fun (w : World) (h : Below W.heap.size W w) => rMake_any x0 x1 x2 x3 x4 u0 u1 u2 u3 u4 X xa xc w (hX.below h))
  unfold MakeP at HMk
  generalize mkT x0 x1 x2 x3 x4 X = c at *
  have HV := Lib.hid hv0
  have HSn := Lib.hid sane13_any
  have HBx := Lib.hid (show ∃ w0, w0 = ((W.alloc (fiveObj x0 x1 x2 x3 x4)).alloc (bhObj h0 h1 h2)).alloc (fiveObj s0 s1 s2 s3 s4) ∧ w0.heap[W.heap.size]? = some (fiveObj x0 x1 x2 x3 x4) ∧ w0.heap[W.heap.size + 1]? = some (bhObj h0 h1 h2) ∧ w0.heap[W.heap.size + 2]? = some (fiveObj s0 s1 s2 s3 s4) ∧ Below W.heap.size W w0 from by
    refine ⟨_, rfl, box_below (heap_alloc_new W _) (below_step (below_new _ _) (below_new _ _)), ?_, ?_, below_step (below_new _ _) (below_step (below_new _ _) (below_new _ _))⟩
    · have := heap_alloc_new (W.alloc (fiveObj x0 x1 x2 x3 x4)) (bhObj h0 h1 h2)
      rw [show (W.alloc (fiveObj x0 x1 x2 x3 x4)).heap.size = W.heap.size + 1 by simp] at this
      exact box_below this (below_new _ _)
    · have := heap_alloc_new ((W.alloc (fiveObj x0 x1 x2 x3 x4)).alloc (bhObj h0 h1 h2)) (fiveObj s0 s1 s2 s3 s4)
      rw [show ((W.alloc (fiveObj x0 x1 x2 x3 x4)).alloc (bhObj h0 h1 h2)).heap.size = W.heap.size + 2 by simp] at this; exact this)
  have HOr := Lib.hid (fun (w : World) (a : Option Addr) (k : Nat) (h : ChA w a k c.chs) => (show Calls Try.prog 14 #[tlV c c.blades a k] w (OrdsR w (ordersT c)) from cOrdersR_any c a k w h))
  have HArc := Lib.hid (fun (o : List Int) (ho : o ∈ ordersT c) (w : World) (a oa : Option Addr) (k oc : Nat) (h : ChA w a k c.chs) (hO : IntsA w oa oc o) => (show Calls Try.prog 19 #[tlV c c.blades a k, .slice oa o.length oc] w fun e w' => ∃ x y, e = .returned (.tuple #[.slice x (arcsC c o).length y, .int .i64 0]) ∧ ArcA w' x y (arcsC c o) ∧ (∀ z, x = some z → z.block < w'.heap.size) ∧ Below w.heap.size w w' from
    (cArcs_any c o a oa k oc w h hO).mono fun e w' ⟨x, y, g1, g2, g3, g4⟩ => by
      rw [show arcsR c o = arcsC c o by unfold arcsR; rw [if_pos ho], show errR c o = 0 by unfold errR; rw [if_pos ho]] at g1
      rw [show arcsR c o = arcsC c o by unfold arcsR; rw [if_pos ho]] at g2
      exact ⟨x, y, g1, g2, fun z hz => (g3 z hz).2, g4⟩))
  have HCk := Lib.hid (fun (s : Sch) (hs : Fits s.p) (w : World) (a oa sa qa : Option Addr) (k oc sc qc : Nat) (h : ChA w a k c.chs) (ho : IntsA w oa oc s.o) (hss : IntsA w sa sc s.s) (hq : IntsA w qa qc s.q) =>
    (show Calls Try.prog 26 #[tlV c c.blades a k, schV s oa sa qa oc sc qc] w fun e w' => e = .returned (.bool (checkS c s)) ∧ Below w.heap.size w w' from cCheck_any c s hs a oa sa qa k oc sc qc w h ho hss hq))
  have HLen := Lib.hid (show 0 < (ordersT c).length ∧ (ordersT c).length ≤ 100000 from ⟨orders_some hv0, orders_len⟩)
  have HPw := Lib.hid (fun (w : World) => pick_is wh ((ordersT c).length : Int) uw (by have := HLen.out; omega) w)
  have HPs := Lib.hid (fun (i : Nat) (hi : i < 5) (w : World) => (show Calls Try.prog 30 #[.int .i64 ([s0, s1, s2, s3, s4].getD i 0), .int .i64 200] w fun e w' => e = .returned (.int .i64 (pickZ ([s0, s1, s2, s3, s4].getD i 0) 200)) ∧ w' = w from by
    obtain rfl | rfl | rfl | rfl | rfl : i = 0 ∨ i = 1 ∨ i = 2 ∨ i = 3 ∨ i = 4 := by omega
    · exact pick_is s0 200 r0 (by omega) w
    · exact pick_is s1 200 r1 (by omega) w
    · exact pick_is s2 200 r2 (by omega) w
    · exact pick_is s3 200 r3 (by omega) w
    · exact pick_is s4 200 r4 (by omega) w))
  clear hv0 u0 u1 u2 u3 u4 hX uw r0 r1 r2 r3 r4
  obtain ⟨w0, hw0, HX0, HH0, HS0, HB0⟩ := HBx.out
  go_enter Try.func7, Try.ntmps7
  go_upto_region 1 with (fail)
  rw [← hw0]
  clear hw0 HBx
  go_wp2_with fail
  refine (HSn.out _).mono ?_
  rintro _ w1 ⟨rfl, b1⟩
  have HX1 := box_below HX0 b1; have HH1 := Lib.hid (box_below HH0 b1); have HS1 := Lib.hid (box_below HS0 b1); have B1 := Lib.hid (below_step HB0 b1)
  have e0 : w1.cell? ⟨W.heap.size, 0, none⟩ = some (.int .i64 x0) := box_cell HX1 0 _ rfl
  have e1 : w1.cell? ⟨W.heap.size, 1, none⟩ = some (.int .i64 x1) := box_cell HX1 1 _ rfl
  have e2 : w1.cell? ⟨W.heap.size, 2, none⟩ = some (.int .i64 x2) := box_cell HX1 2 _ rfl
  have e3 : w1.cell? ⟨W.heap.size, 3, none⟩ = some (.int .i64 x3) := box_cell HX1 3 _ rfl
  have e4 : w1.cell? ⟨W.heap.size, 4, none⟩ = some (.int .i64 x4) := box_cell HX1 4 _ rfl
  have HM1 := Lib.hid (HMk.out w1 B1.out)
  clear b1 HX0 HH0 HS0 HB0 HX1 HMk HSn
  go_wp2_with fail
  refine HM1.out.mono ?_
  rintro _ w2 ⟨a, k, rfl, ha, b2⟩
  have B2 := Lib.hid (below_step B1.out b2); have A2 := Lib.hid ha; have H2 := Lib.hid (box_below HH1.out b2); have S2 := Lib.hid (box_below HS1.out b2)
  clear ha b2 B1 HH1 HS1 e0 e1 e2 e3 e4 HM1
  go_upto_region 3 with (fail)
  have T3 := Lib.hid (heap_alloc_new w2 (tlObj c c.blades a k))
  have hb3 := below_new w2 (tlObj c c.blades a k)
  have B3 := Lib.hid (below_step B2.out hb3); have A3 := Lib.hid (A2.out.below hb3); have H3 := Lib.hid (box_below H2.out hb3); have S3 := Lib.hid (box_below S2.out hb3)
  generalize w2.alloc (tlObj c c.blades a k) = w3 at *
  clear hb3 B2 A2 H2 S2
  generalize w2.heap.size = b1 at *
  obtain ⟨t0, t1, t2, t3, t4⟩ := tl_cells T3.out
  have HO3 := Lib.hid (HOr.out w3 a k A3.out)
  unfold OrdsR at HO3
  go_wp2_with fail
  refine HO3.out.mono ?_
  rintro _ w4 ⟨x, y, rfl, hq, -, b4⟩
  have HQ := Lib.hid hq.out
  have B4 := Lib.hid (below_step B3.out b4.out); have T4 := Lib.hid (box_below T3.out b4.out); have A4 := Lib.hid (A3.out.below b4.out); have H4 := Lib.hid (box_below H3.out b4.out); have S4 := Lib.hid (box_below S3.out b4.out)
  clear hq b4 t0 t1 t2 t3 t4 HO3 T3 A3 B3 H3 S3 HOr
  have hlen := HLen.out
  have i8 : (0 : Int) < ((ordersT c).length : Int) := by omega
  have i7 : ¬ ((ordersT c).length : Int) = 0 := by omega
  have hjb := pickZ_bd (c := wh) (n := ((ordersT c).length : Int)) i8
  obtain ⟨j, hj⟩ : ∃ j : Nat, pickZ wh ((ordersT c).length : Int) = j := ⟨(pickZ wh ((ordersT c).length : Int)).toNat, by omega⟩
  rw [hj] at HPw hjb
  clear hj
  have hjl : j < (ordersT c).length := by omega
  have i0 : (0 : Int) ≤ (j : Int) := by omega
  have i1 : (j : Int) < ((ordersT c).length : Int) := hjb.2
  obtain ⟨b, off, r, hxb, hb, hc, -, hrow⟩ := HQ.out.2.2 j hjl
  subst hxb
  have HM := Lib.hid (List.getElem_mem hjl)
  generalize (ordersT c)[j] = o at *
  have hol := ordLen_of HM.out
  have HRw := Lib.hid (hrow.ints (by omega))
  have hrl : r < w4.heap.size := lt_of_block hrow
  clear hrow HQ
  go_wp2_with fail
  refine (HPw.out _).mono ?_
  rintro _ w5 ⟨rfl, rfl⟩
  obtain ⟨t0, t1, t2, t3, t4⟩ := tl_cells T4.out
  have HA4 := Lib.hid (HArc.out o HM.out w5 a (some ⟨r, 0, none⟩) k o.length A4.out HRw.out)
  go_wp2_with fail
  refine HA4.out.mono ?_
  rintro _ w6 ⟨ax, ay, rfl, hA6, h46, b6⟩
  have E6 := Lib.hid (show EnvC W c a k b1 h0 h1 h2 s0 s1 s2 s3 s4 w6 from EnvC.below ⟨T4.out, A4.out, H4.out, S4.out, B4.out⟩ b6)
  have R6 := Lib.hid (HRw.out.below b6)
  have hr6 : r < w6.heap.size := Nat.lt_of_lt_of_le hrl b6.size
  clear b6 T4 A4 H4 S4 B4 t0 t1 t2 t3 t4 HA4 HRw hb hc hrl
  have HAx := Lib.hid hA6; have HAy := Lib.hid h46
  have HVd := Lib.hid (arcsC_valid (mem_valid HM.out).1 (mem_valid HM.out).2)
  have HSm := Lib.hid (Smallest_any (o.length : Int) 1 1000000 (by unfold Fits; omega) (arcsC c o) ax ay w6 hA6 h46)
  unfold SmPost at HSm
  rw [HVd.out, per_of (p := 1) (by omega), per_of (p := 1000000) (by omega), Int.toNat_natCast] at HSm
  clear hA6 h46
  have HLv := Lib.hid (fun (q : Int) (w : World) (hA : ArcA w ax ay (arcsC c o)) (h4 : ∀ z, ax = some z → z.block < w.heap.size) => lvR_any (o.length : Int) q (by unfold Fits; omega) (arcsC c o) ax ay w hA h4)
  unfold LvR at HLv
  have HCp := Lib.hid (fun (p : Int) (hp : 1 ≤ p ∧ p ≤ 1000000) (hy : feasO c o p = true) (hn : 1 < p → feasO c o (p - 1) = false) => check_proved HM.out hp hy hn)
  have HPp := Lib.hid (fun (p : Int) (hp : 1 ≤ p ∧ p ≤ 1000000) (hy : feasO c o p = true) (hn : 1 < p → feasO c o (p - 1) = false) => proved_parts HM.out hp hy hn)
  unfold provedS at HCp
  unfold feasO at HCp HPp
  generalize arcsC c o = L at *
  go_wp2_with fail
  refine HSm.out.mono ?_
  rintro _ w7 ⟨p, f7, rfl, b7, -, hsp⟩
  have hsp := hsp (by trivial)
  have E7 := Lib.hid (E6.out.below b7); have R7 := Lib.hid (R6.out.below b7); have hr7 : r < w7.heap.size := Nat.lt_of_lt_of_le hr6 b7.size
  have HAx7 := Lib.hid (HAx.out.below b7); have HAy7 := Lib.hid (show ∀ z, ax = some z → z.block < w7.heap.size from fun z hz => Nat.lt_of_lt_of_le (HAy.out z hz) b7.size)
  clear b7 E6 R6 HAx HAy HSm hr6
  cases f7 with
  | false =>
    go_wp2_with fail
    go_ret
    exact ⟨rfl, E7.out.bel⟩
  | true =>
  obtain ⟨p1, p2, p3, p4⟩ := hsp.yes rfl
  have hck := HCp.out p ⟨p1, p2⟩ p3 (fun h => p4 (p - 1) (by omega) (by omega))
  have hpp := HPp.out p ⟨p1, p2⟩ p3 (fun h => p4 (p - 1) (by omega) (by omega))
  have HCkT := Lib.hid hck
  have HPq := Lib.hid hpp.2
  have HSl := Lib.hid hpp.1
  clear hsp hck hpp HCp HPp p3 p4 HVd
  go_upto_region 15 with (fail)
  have P8 := Lib.hid (heap_alloc_new w7 (schObj ⟨p, o, [], []⟩ (some ⟨r, 0, none⟩) none none o.length 0 0))
  have hb8 := below_new w7 (schObj ⟨p, o, [], []⟩ (some ⟨r, 0, none⟩) none none o.length 0 0)
  have E8 := Lib.hid (E7.out.below hb8); have R8 := Lib.hid (R7.out.below hb8)
  have HAx8 := Lib.hid (HAx7.out.below hb8); have HAy8 := Lib.hid (show ∀ z, ax = some z → z.block < w7.heap.size from HAy7.out)
  have HcaB := Lib.hid (show ∀ x, a = some x → x.block < w7.heap.size from fun x hx => by
    obtain ⟨b', off', e', hb', _⟩ := E7.out.ch.at (by have := (validT_iff.1 HV.out).2.2.2.2.1; omega)
    rw [hx] at e'; injection e' with e'; subst e'; exact hb')
  have g1 : b1 < w7.heap.size := lt_of_block E7.out.tool
  have g2 : W.heap.size + 3 ≤ w7.heap.size := lt_of_block E7.out.sts
  have g3 : w7.heap.size < (w7.alloc (schObj ⟨p, o, [], []⟩ (some ⟨r, 0, none⟩) none none o.length 0 0)).heap.size := lt_of_block P8.out
  generalize w7.alloc (schObj ⟨p, o, [], []⟩ (some ⟨r, 0, none⟩) none none o.length 0 0) = w8 at *
  clear hb8 E7 R7 HAx7 HAy7
  generalize w7.heap.size = b3 at *
  have HL8 := Lib.hid (HLv.out p w8 HAx8.out (fun z hz => Nat.lt_trans (HAy8.out z hz) g3))
  go_wp2_with fail
  refine HL8.out.mono ?_
  rintro _ w9 ⟨sa, sc, ca, cc, rfl, i9, -, j9, -, b9⟩
  have P9 := Lib.hid (box_below P8.out b9); have E9 := Lib.hid (E8.out.below b9); have R9 := Lib.hid (R8.out.below b9); have HAx9 := Lib.hid (HAx8.out.below b9); have g4 : b3 < w9.heap.size := lt_of_block P9.out
  have I9 := Lib.hid i9; have J9 := Lib.hid (show ∀ z, sa = some z → ¬ z.block = b3 from fun z hz => by have := j9 z hz; omega)
  clear i9 j9 b9 HL8 P8 E8 R8 HAx8
  generalize (natsI (Cy.lvC (o.length : Int) p L)).length = cl at *
  generalize Cy.lvB (o.length : Int) p L = vb at *
  generalize Cy.lvS (o.length : Int) p L = S at *
  have q2 : w9.cell? ⟨b3, 2, none⟩ = some (.slice none 0 0) := box_cell P9.out 2 _ rfl
  have f2 : w9.frozen? ⟨b3, 2, none⟩ = false := box_fz P9.out 2
  go_upto_region 16 with (fail)
  have P10 := Lib.hid (show (w9.setCell ⟨b3, 2, none⟩ (.slice sa S.length sc)).heap[b3]? = some (.cells #[.int .i64 p, .slice (some ⟨r, 0, none⟩) o.length o.length, .slice sa S.length sc, .slice none 0 0] 30) from block_set (o := 2) P9.out (.slice sa S.length sc))
  have hc9 := ch_set w9 b3 2 (.slice sa S.length sc)
  have E10 := Lib.hid (E9.out.set 2 (.slice sa S.length sc) g2 (by omega) (fun x hx => by have := HcaB.out x hx; omega))
  have R10 := Lib.hid (R9.out.ch hc9 (fun x hx e => by injection hx with hx; subst hx; simp only at e; omega))
  have HAx10 := Lib.hid (HAx9.out.ch hc9 (fun x hx e => by have := HAy8.out x hx; omega))
  have I10 := Lib.hid (I9.out.ch hc9 (fun x hx => J9.out x hx))
  have g5 : b3 < (w9.setCell ⟨b3, 2, none⟩ (.slice sa S.length sc)).heap.size := lt_of_block P10.out
  clear hc9 q2 f2 P9 E9 R9 HAx9 I9 g4
  generalize w9.setCell ⟨b3, 2, none⟩ (.slice sa S.length sc) = w10 at *
  obtain ⟨Q, hQe⟩ : ∃ Q, Q = (if 1 < p then natsI (Cy.lvC (o.length : Int) (p - 1) L) else []) := ⟨_, rfl⟩
  rw [← hQe] at HCkT
  go_upto_if 78 with (fail)
  go_cut [77] (fun s77 wx => s77 = .int .i64 p ∧ Hid (∃ (qa : Option Addr) (qc : Nat), wx.heap[b3]? = some (.cells #[.int .i64 p, .slice (some ⟨r, 0, none⟩) o.length o.length, .slice sa S.length sc, .slice qa Q.length qc] 30) ∧ (Q = [] → qa = none ∧ qc = 0) ∧ Q.length ≤ 1000 ∧ EnvC W c a k b1 h0 h1 h2 s0 s1 s2 s3 s4 wx ∧ IntsA wx (some ⟨r, 0, none⟩) o.length o ∧ IntsA wx sa sc S ∧ IntsA wx qa qc Q))
  case first =>
    by_cases hp1 : 1 < p
    · have d1 : IntKind.i64.wrap (p - 1) = p - 1 := IntWalk.i64_in _ (by omega)
      have HL := Lib.hid (HLv.out (p - 1) w10 HAx10.out (fun z hz => Nat.lt_trans (HAy8.out z hz) g5))
      have hq := HPq.out hp1
      rw [if_pos hp1] at hQe
      rw [← hQe] at HL hq
      clear hQe HPq
      generalize Cy.lvS (o.length : Int) (p - 1) L = S2 at *
      generalize Cy.lvB (o.length : Int) (p - 1) L = vb2 at *
      go_wp2_with fail
      refine HL.out.mono ?_
      rintro _ w11 ⟨sa2, sc2, qa, qc, rfl, -, i4, -, j4, b4⟩
      have P11 := Lib.hid (box_below P10.out b4); have E11 := Lib.hid (E10.out.below b4); have R11 := Lib.hid (R10.out.below b4); have I11 := Lib.hid (I10.out.below b4)
      have K11 := Lib.hid i4; have J11 := Lib.hid (show ∀ z, qa = some z → ¬ z.block = b3 from fun z hz => by have := j4 z hz; omega)
      clear i4 j4 b4 HL P10 E10 R10 I10
      have q3 : w11.cell? ⟨b3, 3, none⟩ = some (.slice none 0 0) := box_cell P11.out 3 _ rfl
      have f3 : w11.frozen? ⟨b3, 3, none⟩ = false := box_fz P11.out 3
      have g6 : b3 < w11.heap.size := lt_of_block P11.out
      have P12 := Lib.hid (show (w11.setCell ⟨b3, 3, none⟩ (.slice qa Q.length qc)).heap[b3]? = some (.cells #[.int .i64 p, .slice (some ⟨r, 0, none⟩) o.length o.length, .slice sa S.length sc, .slice qa Q.length qc] 30) from block_set (o := 3) P11.out (.slice qa Q.length qc))
      have hc := ch_set w11 b3 3 (.slice qa Q.length qc)
      have E12 := Lib.hid (E11.out.set 3 (.slice qa Q.length qc) g2 (by omega) (fun x hx => by have := HcaB.out x hx; omega))
      have R12 := Lib.hid (R11.out.ch hc (fun x hx e => by injection hx with hx; subst hx; simp only at e; omega))
      have I12 := Lib.hid (I11.out.ch hc (fun x hx => J9.out x hx))
      have K12 := Lib.hid (K11.out.ch hc (fun x hx => J11.out x hx))
      clear hc P11 E11 R11 I11 K11
      go_wp2_with fail
      go_meet
      exact ⟨rfl, Lib.hid ⟨qa, qc, P12.out, fun e => by subst e; simp at hq, by omega, E12.out, R12.out, I12.out, K12.out⟩⟩
    · rw [if_neg hp1] at hQe
      subst hQe
      go_wp2_with fail
      go_meet
      exact ⟨rfl, Lib.hid ⟨none, 0, P10.out, fun _ => ⟨rfl, rfl⟩, by simp, E10.out, R10.out, I10.out, RowA.nil _ _ _⟩⟩
  case rest =>
  obtain ⟨rfl, HQ⟩ := hcut
  obtain ⟨qa, qc, P11, eQ, lQ, E11, R11, I11, K11⟩ := HQ.out
  have HP11 := Lib.hid P11; have HE11 := Lib.hid E11; have HR11 := Lib.hid R11; have HI11 := Lib.hid I11; have HK11 := Lib.hid K11
  have EQ := Lib.hid eQ
  have LQ := Lib.hid lQ
  clear HQ P11 hQe E11 R11 I11 K11 P10 E10 R10 HAx10 I10 HLv HPq eQ lQ
  obtain ⟨t0, t1, t2, t3, t4⟩ := tl_cells HE11.out.tool
  have c0 : wc.cell? ⟨b3, 0, none⟩ = some (.int .i64 p) := box_cell HP11.out 0 _ rfl
  have c1 : wc.cell? ⟨b3, 1, none⟩ = some (.slice (some ⟨r, 0, none⟩) o.length o.length) := box_cell HP11.out 1 _ rfl
  have c2 : wc.cell? ⟨b3, 2, none⟩ = some (.slice sa S.length sc) := box_cell HP11.out 2 _ rfl
  have c3 : wc.cell? ⟨b3, 3, none⟩ = some (.slice qa Q.length qc) := box_cell HP11.out 3 _ rfl
  have HC := Lib.hid (show Calls Try.prog 26 #[tlV c c.blades a k, .agg #[.int .i64 p, .slice (some ⟨r, 0, none⟩) o.length o.length, .slice sa S.length sc, .slice qa Q.length qc]] wc fun e w' => e = .returned (.bool true) ∧ Below wc.heap.size wc w' from by
    have := HCk.out ⟨p, o, S, Q⟩ (show Fits p by unfold Fits; omega) wc a (some ⟨r, 0, none⟩) sa qa k o.length sc qc HE11.out.ch HR11.out HI11.out HK11.out
    rw [HCkT.out] at this; exact this)
  go_wp2_with fail
  refine HC.out.mono ?_
  rintro _ w12 ⟨rfl, b12⟩
  have E12 := Lib.hid (HE11.out.below b12)
  have HBn := Lib.hid (bent_any p (by omega) o S Q (some ⟨r, 0, none⟩) sa qa o.length sc qc h0 h1 h2 v0 v1 v2 w12 (HR11.out.below b12) (HI11.out.below b12) (HK11.out.below b12) (fun e => by subst e; simp at hol) (fun e => by have := HSl.out; subst e; simp at this; omega) EQ.out (by omega) (by have := HSl.out; omega) LQ.out)
  unfold BentP at HBn
  have P12 := box_below HP11.out b12
  clear t0 t1 t2 t3 t4 c0 c1 c2 c3 HC HE11 HR11 HI11 HK11 HCkT EQ LQ HP11 b12 HSl
  have c0 : w12.cell? ⟨b3, 0, none⟩ = some (.int .i64 p) := box_cell P12 0 _ rfl
  have c1 : w12.cell? ⟨b3, 1, none⟩ = some (.slice (some ⟨r, 0, none⟩) o.length o.length) := box_cell P12 1 _ rfl
  have c2 : w12.cell? ⟨b3, 2, none⟩ = some (.slice sa S.length sc) := box_cell P12 2 _ rfl
  have c3 : w12.cell? ⟨b3, 3, none⟩ = some (.slice qa Q.length qc) := box_cell P12 3 _ rfl
  have m0 : w12.cell? ⟨W.heap.size + 1, 0, none⟩ = some (.int .i64 h0) := box_cell E12.out.how 0 _ rfl
  have m1 : w12.cell? ⟨W.heap.size + 1, 1, none⟩ = some (.int .i64 h1) := box_cell E12.out.how 1 _ rfl
  have m2 : w12.cell? ⟨W.heap.size + 1, 2, none⟩ = some (.int .i64 h2) := box_cell E12.out.how 2 _ rfl
  go_wp2_with fail
  refine HBn.out.mono ?_
  rintro _ w13 ⟨t, oa2, sa2, qa2, oc2, sc2, qc2, rfl, i13, j13, k13, b13, q1, q2⟩
  have E13 := Lib.hid (E12.out.below b13); have I13 := Lib.hid i13; have J13 := Lib.hid j13; have K13 := Lib.hid k13
  clear c0 c1 c2 c3 m0 m1 m2 P12 HBn E12 i13 j13 k13 b13
  go_upto_region 21 with (fail)
  have P14 := Lib.hid (heap_alloc_new w13 (schObj t oa2 sa2 qa2 oc2 sc2 qc2))
  have hb14 := below_new w13 (schObj t oa2 sa2 qa2 oc2 sc2 qc2)
  have E14 := Lib.hid (E13.out.below hb14); have I14 := Lib.hid (I13.out.below hb14); have J14 := Lib.hid (J13.out.below hb14); have K14 := Lib.hid (K13.out.below hb14)
  generalize w13.alloc (schObj t oa2 sa2 qa2 oc2 sc2 qc2) = w14 at *
  clear hb14 E13 I13 J13 K13
  generalize w13.heap.size = b4 at *
  obtain ⟨t0, t1, t2, t3, t4⟩ := tl_cells E14.out.tool
  obtain ⟨c0, c1, c2, c3⟩ := schC_of P14.out
  have HC14 := Lib.hid (HCk.out t (by unfold Fits; omega) w14 a oa2 sa2 qa2 k oc2 sc2 qc2 E14.out.ch I14.out J14.out K14.out)
  go_wp2_with fail
  refine HC14.out.mono ?_
  rintro _ w15 ⟨rfl, b15⟩
  have E15 := Lib.hid (E14.out.below b15); have I15 := Lib.hid (I14.out.below b15); have P15 := Lib.hid (box_below P14.out b15)
  clear b15 E14 I14 J14 K14 P14 t0 t1 t2 t3 t4 c0 c1 c2 c3 HC14 HCk
  cases hct : checkS c t with
  | false =>
    go_wp2_with fail
    go_ret
    exact ⟨rfl, E15.out.bel⟩
  | true =>
  obtain ⟨hm, htp, hlow⟩ := low_all hct
  have HLow := Lib.hid hlow
  have HA15 := Lib.hid (HArc.out t.o hm w15 a oa2 k oc2 E15.out.ch I15.out)
  have htl := ordLen_of hm
  clear hct hlow
  obtain ⟨t0, t1, t2, t3, t4⟩ := tl_cells E15.out.tool
  obtain ⟨c0, c1, c2, c3⟩ := schC_of P15.out
  go_upto_region 23 with (fail)
  go_wp2_with fail
  refine HA15.out.mono ?_
  rintro _ w16 ⟨ax, ay, rfl, hA16, h416, b16⟩
  have E16 := Lib.hid (E15.out.below b16); have P16 := Lib.hid (box_below P15.out b16); have HAx := Lib.hid hA16; have HAy := Lib.hid h416
  clear b16 E15 I15 P15 t0 t1 t2 t3 t4 c0 c1 c2 c3 HA15 HArc hA16 h416
  go_upto_region 24 with (fail)
  obtain ⟨c0, c1, c2, c3⟩ := schC_of P16.out
  have hmx : max t.p 1 = t.p := by omega
  have hz := pickZ_bd (c := le) (n := t.p) (by omega)
  have HPl := Lib.hid (pick_is le t.p ul (by omega))
  generalize pickZ le t.p = z at *
  have d1 : IntKind.i64.wrap (t.p - 1) = t.p - 1 := IntWalk.i64_in _ (by omega)
  have d2 : IntKind.i64.wrap (t.p - 1 - z) = t.p - 1 - z := IntWalk.i64_in _ (by omega)
  go_quiet ((go_at_call 30; exact Calls.quiet_of_same (HPl.out _)))
  clear c0 c1 c2 c3 hmx d1 d2 HPl
  generalize hm9 : t.p - 1 - z = m
  have E17 := Lib.hid (E16.out.below (below_drewN (Below.refl _ _) nq)); have P17 := Lib.hid (box_below P16.out (below_drewN (Below.refl _ _) nq))
  have HAx17 := Lib.hid (HAx.out.below (below_drewN (Below.refl _ _) nq)); have HAy17 := Lib.hid (show ∀ z, ax = some z → z.block < (w16.drewN nq).heap.size from HAy.out)
  generalize w16.drewN nq = w17 at *
  clear E16 P16 HAx HAy
  have hva := mem_valid hm
  have HVa := Lib.hid (arcsC_valid hva.1 hva.2)
  have HL17 := Lib.hid (lvB_any (t.o.length : Int) (max m 1) (by unfold Fits; omega) (arcsC c t.o) ax ay w17 HAx17.out HAy17.out)
  unfold LvB at HL17
  have HVe := Lib.hid (fun (ms : List Int) (ma : Option Addr) (mc : Nat) (w' : World) (h : Below w17.heap.size w17 w') (hm2 : IntsA w' ma mc ms) => Verify_any (t.o.length : Int) m (by unfold Fits; omega) (arcsC c t.o) ax ay ms ma mc w' (HAx17.out.below h) hm2 (fun x hx => Nat.lt_of_lt_of_le (HAy17.out x hx) h.size))
  have HNo := Lib.hid (fun (h : 1 ≤ m) => HLow.out m h (by omega))
  have HLvb := Lib.hid (fun (h : 1 ≤ m) => (show Cy.lvB (t.o.length : Int) m (arcsC c t.o) = false by rw [lvB_is HVa.out (per1 (p := m) (by omega))]; exact (HLow.out m h (by omega)).1))
  clear HLow hva HVa hm
  obtain ⟨c0, c1, c2, c3⟩ := schC_of P17.out
  generalize arcsC c t.o = L2 at *
  by_cases hm1 : 1 ≤ m
  · have hmx : max m 1 = m := by omega
    rw [hmx, HLvb.out hm1] at HL17
    have hge : (m ≥ 1) := hm1
    have hlt1 : ¬ m < 1 := by omega
    go_wp2_with fail
    try rw [hmx]
    refine HL17.out.mono ?_
    rintro _ w18 ⟨ya, yc, za, zc, rfl, -, -, b18⟩
    have E18 := Lib.hid (E17.out.below b18); have P18 := Lib.hid (box_below P17.out b18); have G18 := Lib.hid b18
    clear b18 c0 c1 c2 c3 E17 P17 HL17 HAx17 HAy17
    go_wp2_with fail
    obtain ⟨iz, hi, hz0, hz1, hz2⟩ := info_parts info_int
    go_loopw [28, 29] (fun vv i wr => ∃ (n : Nat) (v : Value) (mm : List Int), n ≤ t.o.length ∧ mm.length = n ∧ i = .int .i64 (n : Int) ∧ v = vv ∧ Hid (wr.ownsRow w18.heap.size 3 1 v n (mm.flatMap intCells)) ∧ Hid (Below w18.heap.size w18 wr)) (fun _ i _ => t.o.length - (intOf i).toNat)
    case atStart => exact ⟨0, _, [], by omega, rfl, rfl, rfl, Lib.hid (World.ownsRow_nil _ _ _ _), Lib.hid (Below.refl _ _)⟩
    case round =>
      obtain ⟨n, v, mm, hn, hmm, rfl, rfl, HV5, HB5⟩ := hrel
      have n0 : (0 : Int) ≤ (n : Int) := by omega
      have hs := HB5.out.size
      have E19 := Lib.hid (E18.out.below HB5.out)
      obtain ⟨c0, c1, c2, c3⟩ := schC_of (box_below P18.out HB5.out)
      by_cases hlt : n < t.o.length
      · have n1 : (n : Int) < (t.o.length : Int) := by omega
        have n5 : (n : Int) < 5 := by omega
        have e4 : wr.cell? ⟨W.heap.size + 2, n, none⟩ = some (.int .i64 ([s0, s1, s2, s3, s4].getD n 0)) := by
          obtain h | h | h | h | h : n = 0 ∨ n = 1 ∨ n = 2 ∨ n = 3 ∨ n = 4 := by omega
          · rw [h]; exact box_cell E19.out.sts 0 _ rfl
          · rw [h]; exact box_cell E19.out.sts 1 _ rfl
          · rw [h]; exact box_cell E19.out.sts 2 _ rfl
          · rw [h]; exact box_cell E19.out.sts 3 _ rfl
          · rw [h]; exact box_cell E19.out.sts 4 _ rfl
        have HPi := Lib.hid (HPs.out n (by omega))
        have d2 : IntKind.i64.wrap ((n : Int) + 1) = (n : Int) + 1 := IntWalk.i64_in _ (by omega)
        generalize [s0, s1, s2, s3, s4].getD n 0 = sv at *
        go_wp2_with fail
        refine (HPi.out wr).mono ?_
        rintro _ wr ⟨rfl, rfl⟩
        generalize pickZ sv 200 = zz at *
        clear HPi e4 E19
        go_wp2_with (at_builtin; refine wpList_append_own _ rfl _ _ 25 rfl w18.heap.size 3 iz (.int .i64 0) 1 8 Try.underlying25 hi hz0 hz1 hz2 rfl (by decide) _ _ _ rfl (HV5.out.alloc _) ⟨wr.heap.size, 0, none⟩ 1 1 [.int .i64 zz] rfl rfl (cell_one_new _ _ _) (by simp [Value.oneCell']) (by unfold maxLen; omega) (by omega) (by simp; omega) ?_; intro v' w6 hown' hgrow _)
        have O6 := Lib.hid (show w6.ownsRow w18.heap.size 3 1 v' (n + 1) ((mm ++ [zz]).flatMap intCells) by rw [List.flatMap_append]; exact hown')
        have G6 := Lib.hid (HB5.out.trans (((Below.refl w18.heap.size wr).alloc hs (.cells #[.int .i64 zz] 3)).grown hgrow (by simp; omega) (fun kk e => (HV5.out.lt kk e).1)))
        clear hown' hgrow c0 c1 c2 c3
        go_wp2_with fail
        go_roundw
        case rel => exact ⟨n + 1, _, mm ++ [zz], hlt, by simp [hmm], by go_num, rfl, O6, G6⟩
        case measure => simp [intOf]; omega
      · have n1 : ¬ (n : Int) < (t.o.length : Int) := by omega
        have BV := Lib.hid (below_step G18.out HB5.out)
        obtain ⟨ma, mc, rfl, hm, -⟩ := RowO.arg int_len (show IntsO wr w18.heap.size v mm by unfold IntsO RowO; rw [hmm]; exact HV5.out)
        have HVf := Lib.hid (HVe.out mm ma mc wr BV.out hm)
        clear hm HV5 HB5 HVe BV hmm hs
        rw [(HNo.out hm1).2 mm] at HVf
        go_wp2_with fail
        refine HVf.out.mono ?_
        rintro _ w20 ⟨rfl, b20⟩
        have B20 := Lib.hid (below_step E19.out.bel b20)
        clear b20 c0 c1 c2 c3 E19
        go_wp2_with fail
        go_ret
        exact ⟨rfl, B20.out⟩
  · have hmx : max m 1 = 1 := by omega
    rw [hmx] at HL17
    have hge : ¬ (1 ≤ m) := hm1
    have hlt1 : m < 1 := by omega
    generalize Cy.lvB (t.o.length : Int) 1 L2 = vb1 at *
    go_wp2_with fail
    try rw [hmx]
    refine HL17.out.mono ?_
    rintro _ w18 ⟨ya, yc, za, zc, rfl, -, -, b18⟩
    have E18 := Lib.hid (E17.out.below b18); have P18 := Lib.hid (box_below P17.out b18); have G18 := Lib.hid b18
    clear b18 c0 c1 c2 c3 E17 P17 HL17 HAx17 HAy17
    go_wp2_with fail
    obtain ⟨iz, hi, hz0, hz1, hz2⟩ := info_parts info_int
    go_loopw [28, 29] (fun vv i wr => ∃ (n : Nat) (v : Value) (mm : List Int), n ≤ t.o.length ∧ mm.length = n ∧ i = .int .i64 (n : Int) ∧ v = vv ∧ Hid (wr.ownsRow w18.heap.size 3 1 v n (mm.flatMap intCells)) ∧ Hid (Below w18.heap.size w18 wr)) (fun _ i _ => t.o.length - (intOf i).toNat)
    case atStart => exact ⟨0, _, [], by omega, rfl, rfl, rfl, Lib.hid (World.ownsRow_nil _ _ _ _), Lib.hid (Below.refl _ _)⟩
    case round =>
      obtain ⟨n, v, mm, hn, hmm, rfl, rfl, HV5, HB5⟩ := hrel
      have n0 : (0 : Int) ≤ (n : Int) := by omega
      have hs := HB5.out.size
      have E19 := Lib.hid (E18.out.below HB5.out)
      obtain ⟨c0, c1, c2, c3⟩ := schC_of (box_below P18.out HB5.out)
      by_cases hlt : n < t.o.length
      · have n1 : (n : Int) < (t.o.length : Int) := by omega
        have n5 : (n : Int) < 5 := by omega
        have e4 : wr.cell? ⟨W.heap.size + 2, n, none⟩ = some (.int .i64 ([s0, s1, s2, s3, s4].getD n 0)) := by
          obtain h | h | h | h | h : n = 0 ∨ n = 1 ∨ n = 2 ∨ n = 3 ∨ n = 4 := by omega
          · rw [h]; exact box_cell E19.out.sts 0 _ rfl
          · rw [h]; exact box_cell E19.out.sts 1 _ rfl
          · rw [h]; exact box_cell E19.out.sts 2 _ rfl
          · rw [h]; exact box_cell E19.out.sts 3 _ rfl
          · rw [h]; exact box_cell E19.out.sts 4 _ rfl
        have HPi := Lib.hid (HPs.out n (by omega))
        have d2 : IntKind.i64.wrap ((n : Int) + 1) = (n : Int) + 1 := IntWalk.i64_in _ (by omega)
        generalize [s0, s1, s2, s3, s4].getD n 0 = sv at *
        go_wp2_with fail
        refine (HPi.out wr).mono ?_
        rintro _ wr ⟨rfl, rfl⟩
        generalize pickZ sv 200 = zz at *
        clear HPi e4 E19
        go_wp2_with (at_builtin; refine wpList_append_own _ rfl _ _ 25 rfl w18.heap.size 3 iz (.int .i64 0) 1 8 Try.underlying25 hi hz0 hz1 hz2 rfl (by decide) _ _ _ rfl (HV5.out.alloc _) ⟨wr.heap.size, 0, none⟩ 1 1 [.int .i64 zz] rfl rfl (cell_one_new _ _ _) (by simp [Value.oneCell']) (by unfold maxLen; omega) (by omega) (by simp; omega) ?_; intro v' w6 hown' hgrow _)
        have O6 := Lib.hid (show w6.ownsRow w18.heap.size 3 1 v' (n + 1) ((mm ++ [zz]).flatMap intCells) by rw [List.flatMap_append]; exact hown')
        have G6 := Lib.hid (HB5.out.trans (((Below.refl w18.heap.size wr).alloc hs (.cells #[.int .i64 zz] 3)).grown hgrow (by simp; omega) (fun kk e => (HV5.out.lt kk e).1)))
        clear hown' hgrow c0 c1 c2 c3
        go_wp2_with fail
        go_roundw
        case rel => exact ⟨n + 1, _, mm ++ [zz], hlt, by simp [hmm], by go_num, rfl, O6, G6⟩
        case measure => simp [intOf]; omega
      · have n1 : ¬ (n : Int) < (t.o.length : Int) := by omega
        have BV := Lib.hid (below_step G18.out HB5.out)
        obtain ⟨ma, mc, rfl, hm, -⟩ := RowO.arg int_len (show IntsO wr w18.heap.size v mm by unfold IntsO RowO; rw [hmm]; exact HV5.out)
        have HVf := Lib.hid (HVe.out mm ma mc wr BV.out hm)
        clear hm HV5 HB5 HVe BV hmm hs
        go_wp2_with fail
        go_ret
        exact ⟨rfl, E19.out.bel⟩
end Go.Proofs.Ytiolmcnngpaapaa

namespace Go.Proofs.Ytiolmcnngpaapaa.lawClusterProof
open Go.ChangeShapes Go.WideShapes Go.ChangeAt Go.RowKit

set_option maxRecDepth 100000 in
theorem lifted (os : Os) (started : os.Started) (H : Type) (enc : TypeId × Value → H) :
    ReturnsInHanded {} Try.checked os 7 .any (Rows.clusterProofSpec.pre6 enc Try.prog Try.f7 [] false) (Rows.clusterProofSpec.post enc Try.prog Try.f7 false true false false) := by
  refine returnsInHanded_of_change (C := Try.checked) own started (by kernel_rfl) Try.func7
    (ChangeSpec.witness6 (enc := enc) (C := Try.checked) (os := os) false ⟨#[], #[.agg #[.int .i64 0, .int .i64 0, .int .i64 0, .int .i64 0, .int .i64 0], .slice none 0 0, .int .i64 0, .agg #[.int .i64 0, .int .i64 0, .int .i64 0], .int .i64 0, .agg #[.int .i64 0, .int .i64 0, .int .i64 0, .int .i64 0, .int .i64 0]], []⟩ 8 (by kernel_rfl) (by kernel_rfl) (by kernel_rfl) (by kernel_rfl)) ?_
  intro W base args ds gs before hval0 hW _ _
  have hval : ∀ (j : Nat) t v, Try.f7.params[j]? = some t → args[j]? = some v → Value.okWide Try.prog W .any base t v := hval0
  have hW' := hW
  obtain ⟨p, q, hA0, hV, rfl, hfz, hnd⟩ := hW
  have hA : DataW.TrodAll enc Try.prog W 0 (fun _ => true) true Try.f7.params.toList args.toList ds p := hA0
  rw [Try.params7] at hA hval
  obtain ⟨v0, vs0, d0, ds0, p0, q0, hargs, rfl, rfl, h0, r0⟩ := trodAll_cons hA
  obtain ⟨v1, vs1, d1, ds1, p1, q1, rfl, rfl, rfl, h1, r1⟩ := trodAll_cons r0
  obtain ⟨v2, vs2, d2, ds2, p2, q2, rfl, rfl, rfl, h2, r2⟩ := trodAll_cons r1
  obtain ⟨v3, vs3, d3, ds3, p3, q3, rfl, rfl, rfl, h3, r3⟩ := trodAll_cons r2
  obtain ⟨v4, vs4, d4, ds4, p4, q4, rfl, rfl, rfl, h4, r4⟩ := trodAll_cons r3
  obtain ⟨v5, vs5, d5, ds5, p5, q5, rfl, rfl, rfl, h5, r5⟩ := trodAll_cons r4
  obtain ⟨rfl, rfl, rfl⟩ := trodAll_nil r5
  obtain rfl : args = #[v0, v1, v2, v3, v4, v5] := by cases args; simp_all
  obtain ⟨rfl, rfl⟩ := trodVars_none hV
  have k0 := h0
  have lt0 : ∀ x ∈ p0, x.block < W.heap.size := by obtain ⟨m, hm⟩ := k0; exact DataW.trod_lt m _ _ _ hm
  have k1 := h1
  have lt1 : ∀ x ∈ p1, x.block < W.heap.size := by obtain ⟨m, hm⟩ := k1; exact DataW.trod_lt m _ _ _ hm
  have k2 := h2
  have lt2 : ∀ x ∈ p2, x.block < W.heap.size := by obtain ⟨m, hm⟩ := k2; exact DataW.trod_lt m _ _ _ hm
  have k3 := h3
  have lt3 : ∀ x ∈ p3, x.block < W.heap.size := by obtain ⟨m, hm⟩ := k3; exact DataW.trod_lt m _ _ _ hm
  have k4 := h4
  have lt4 : ∀ x ∈ p4, x.block < W.heap.size := by obtain ⟨m, hm⟩ := k4; exact DataW.trod_lt m _ _ _ hm
  have k5 := h5
  have lt5 : ∀ x ∈ p5, x.block < W.heap.size := by obtain ⟨m, hm⟩ := k5; exact DataW.trod_lt m _ _ _ hm
  obtain ⟨e00, e01, e02, e03, e04, rfl, f00, f01, f02, f03, f04⟩ := open_five (hval 0 26 v0 rfl rfl) h0
  obtain ⟨a1, c1, z1, rfl, w1⟩ := open_twos (hval 1 27 v1 rfl rfl) h1
  obtain ⟨a2, rfl, hd2, hp2, w2⟩ := open_int Try.underlying3 (hval 2 3 v2 rfl rfl) h2
  have b2 := bounds_i64 w2
  obtain ⟨a3, b3, c3, rfl, w3, x3, y3⟩ := open_three (hval 3 45 v3 rfl rfl) h3
  obtain ⟨a4, rfl, hd4, hp4, w4⟩ := open_int Try.underlying3 (hval 4 3 v4 rfl rfl) h4
  have b4 := bounds_i64 w4
  obtain ⟨e50, e51, e52, e53, e54, rfl, f50, f51, f52, f53, f54⟩ := open_five (hval 5 26 v5 rfl rfl) h5
  clear hA0 hval0
  refine (proof_law e00 e01 e02 e03 e04 a1 c1 z1 a2 a3 b3 c3 a4 e50 e51 e52 e53 e54 W f00 f01 f02 f03 f04 w1 ⟨b2.1, b2.2⟩ w3 x3 y3 ⟨b4.1, b4.2⟩ f50 f51 f52 f53 f54).mono fun e W' ⟨he, bel⟩ => ?_
  subst he
  exact ⟨_, rfl, _, _, _, [], _, [], hW', trodAll_mk1 (shut_bool Try.underlying4 _), (trodAll_cons_mk (Below.trod laidOut (by kernel_rfl) (of_decide_eq_true (by kernel_rfl)) k0 bel lt0) (trodAll_cons_mk (Below.trod laidOut (by kernel_rfl) (of_decide_eq_true (by kernel_rfl)) k1 bel lt1) (trodAll_cons_mk (Below.trod laidOut (by kernel_rfl) (of_decide_eq_true (by kernel_rfl)) k2 bel lt2) (trodAll_cons_mk (Below.trod laidOut (by kernel_rfl) (of_decide_eq_true (by kernel_rfl)) k3 bel lt3) (trodAll_cons_mk (Below.trod laidOut (by kernel_rfl) (of_decide_eq_true (by kernel_rfl)) k4 bel lt4) (trodAll_cons_mk (Below.trod laidOut (by kernel_rfl) (of_decide_eq_true (by kernel_rfl)) k5 bel lt5) trodAll_mk0)))))), rfl, bel.frame _, fun h => by cases h⟩

theorem proved : Rows.ClusterProofSaid :=
  OpenClaim.holds_of_wide 7 Try.f7 rfl rfl rfl rfl rfl rfl rfl ⟨rfl, rfl, rfl, rfl, rfl⟩ rfl rfl rfl rfl rfl (by kernel_rfl) Try.func7 (by kernel_rfl)
    (of_decide_eq_true (by kernel_rfl)) (by unfold Func.isWrapper; rw [if_neg (of_decide_eq_false (by kernel_rfl))]; exact ⟨rfl, rfl⟩)
    (fun os started H enc _ => lifted os started H enc)
#print axioms proved
end Go.Proofs.Ytiolmcnngpaapaa.lawClusterProof
