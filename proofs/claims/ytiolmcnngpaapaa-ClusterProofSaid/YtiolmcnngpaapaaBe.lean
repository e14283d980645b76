/-
  The proof of a period; Best.
-/
import Derived.Test.YtiolmcnngpaapaaCk
import Derived.Test.YtiolmcnngpaapaaHd
namespace Go.Proofs.Ytiolmcnngpaapaa
open Go.RowKit Go.Shelf Cl
open Cy (Arc)

/-- The schedule of an order with a period: its starts, and the cycle that refutes the next smaller one. -/
def provedS (c : Tool) (p : Int) (o : List Int) : Sch :=
  ⟨p, o, Cy.lvS (o.length : Int) p (arcsC c o), if 1 < p then natsI (Cy.lvC (o.length : Int) (p - 1) (arcsC c o)) else []⟩
/-- A schedule, as a value that can be read. -/
def SchP (w : World) (oa : Option Addr) (oc : Nat) (s : Sch) (e : Ending) (w' : World) : Prop := ∃ sa qa sc qc, e = .returned (schV s oa sa qa oc sc qc) ∧ IntsA w' oa oc s.o ∧ IntsA w' sa sc s.s ∧ IntsA w' qa qc s.q ∧ Below w.heap.size w w' ∧ (∀ x, sa = some x → w.heap.size ≤ x.block) ∧ (∀ x, qa = some x → w.heap.size ≤ x.block)
/-- Levels, its rows in blocks of its own. -/
def LvR (n p : Int) (L : List Arc) (w : World) (e : Ending) (w' : World) : Prop :=
  ∃ sa sc ca cc, e = .returned (.tuple #[.slice sa (Cy.lvS n p L).length sc, .slice ca (natsI (Cy.lvC n p L)).length cc, .bool (Cy.lvB n p L)]) ∧ IntsA w' sa sc (Cy.lvS n p L) ∧ IntsA w' ca cc (natsI (Cy.lvC n p L)) ∧ (∀ x, sa = some x → w.heap.size ≤ x.block) ∧ (∀ x, ca = some x → w.heap.size ≤ x.block) ∧ Below w.heap.size w w'
theorem lvR_any (n p : Int) (hn : Fits n) (L : List Arc) (a : Option Addr) (c : Nat) (w : World) (hA : ArcA w a c L) (hS4 : ∀ x, a = some x → x.block < w.heap.size) :
    Calls Try.prog 31 #[.int .i64 n, .slice a L.length c, .int .i64 p] w (LvR n p L w) := (Levels_any n p hn L a c w hA hS4).mono fun e w' h => by
  obtain ⟨vs, vc, rfl, h1, h2, h3⟩ := h
  obtain ⟨sa, sc, rfl, h4, h5⟩ := RowO.arg int_len h1
  obtain ⟨ca, cc, rfl, h6, h7⟩ := RowO.arg int_len h2
  exact ⟨sa, sc, ca, cc, rfl, h4, h6, fun x hx => (h1.lt _ (h5 x hx)).1, fun x hx => (h2.lt _ (h7 x hx)).1, h3⟩
abbrev zeroSch : Obj := .cells #[.int .i64 0, .slice none 0 0, .slice none 0 0, .slice none 0 0] 30
set_option maxRecDepth 100000 in
set_option maxHeartbeats 1000000 in
theorem proved_any (c : Tool) (p : Int) (o : List Int) (hv : validT c = true) (ho : Ord c.chs.length o) (hp : 1 ≤ p ∧ p ≤ 1000000) (a oa : Option Addr) (k oc : Nat) (w : World) (h : ChA w a k c.chs) (hO : IntsA w oa oc o) :
    Calls Try.prog 45 #[toolV c a k, schV ⟨p, o, [], []⟩ oa none none oc 0 0] w (SchP w oa oc (provedS c p o)) := by
  have hX : (w.alloc (toolObj c a k)).heap.size = w.heap.size + 1 := by simp
  have HB := Lib.hid (below_step (below_new w (toolObj c a k)) (below_step (below_new (w.alloc (toolObj c a k)) (schObj ⟨p, o, [], []⟩ oa none none oc 0 0)) (below_new _ zeroSch)))
  have HT := Lib.hid (show (((w.alloc (toolObj c a k)).alloc (schObj ⟨p, o, [], []⟩ oa none none oc 0 0)).alloc zeroSch).heap[w.heap.size]? = some (toolObj c a k) from box_below (heap_alloc_new w (toolObj c a k)) (below_step (below_new _ _) (below_new _ _)))
  have HS := Lib.hid (show (((w.alloc (toolObj c a k)).alloc (schObj ⟨p, o, [], []⟩ oa none none oc 0 0)).alloc zeroSch).heap[w.heap.size + 1]? = some (schObj ⟨p, o, [], []⟩ oa none none oc 0 0) from by
    have := heap_alloc_new (w.alloc (toolObj c a k)) (schObj ⟨p, o, [], []⟩ oa none none oc 0 0); rw [hX] at this; exact box_below this (below_new _ _))
  have HZ := Lib.hid (show (((w.alloc (toolObj c a k)).alloc (schObj ⟨p, o, [], []⟩ oa none none oc 0 0)).alloc zeroSch).heap[w.heap.size + 2]? = some zeroSch from by
    have := heap_alloc_new ((w.alloc (toolObj c a k)).alloc (schObj ⟨p, o, [], []⟩ oa none none oc 0 0)) zeroSch
    rw [show ((w.alloc (toolObj c a k)).alloc (schObj ⟨p, o, [], []⟩ oa none none oc 0 0)).heap.size = w.heap.size + 2 by simp] at this; exact this)
  have hol : o.length ≤ 5 := by have h1 := ho.len; have := (validT_iff.1 hv).2.2.2.2.1; omega
  have HAr := Lib.hid (fun (W : World) (hb : Below w.heap.size w W) => arcsOf_any c hv o ho a k oa oc W (h.below hb) (hO.below hb))
  have HOr := Lib.hid hO
  have HLv := Lib.hid (fun (q : Int) (x : Option Addr) (y : Nat) (W : World) (hA : ArcA W x y (arcsC c o)) (h4 : ∀ z, x = some z → z.block < W.heap.size) => lvR_any (o.length : Int) q (by unfold Fits; omega) (arcsC c o) x y W hA h4)
  unfold LvR at HLv
  have HE := Lib.hid (show provedS c p o = ⟨p, o, Cy.lvS (o.length : Int) p (arcsC c o), if 1 < p then natsI (Cy.lvC (o.length : Int) (p - 1) (arcsC c o)) else []⟩ from rfl)
  obtain ⟨t0, t1, t2, t3, t4⟩ := toolC_of HT.out
  obtain ⟨s0, s1, s2, s3⟩ := schC_of HS.out
  simp only [List.length_nil] at s0 s1 s2 s3
  have d1 : IntKind.i64.wrap (p - 1) = p - 1 := IntWalk.i64_in _ (by omega)
  generalize provedS c p o = sch at *
  clear h hO hX ho hv
  go_enter Try.func45, Try.ntmps45
  go_wp2_with fail
  refine (HAr.out _ HB.out).mono ?_
  rintro _ w1 ⟨x, y, rfl, h1, h2, h3⟩
  have B1 := Lib.hid (below_step HB.out h3)
  have HS1 := Lib.hid (box_below HS.out h3); have HZ1 := Lib.hid (box_below HZ.out h3)
  have HL1 := Lib.hid (HLv.out p x y w1 h1 (fun z hz => (h2 z hz).2))
  have HNE := Lib.hid (show ∀ z, x = some z → ¬ z.block = w.heap.size + 1 from fun z hz => by
    have h5 := (h2 z hz).1
    have h6 : (((w.alloc (toolObj c a k)).alloc (schObj ⟨p, o, [], []⟩ oa none none oc 0 0)).alloc zeroSch).heap.size = w.heap.size + 3 := by simp
    have h7 : w.heap.size + 3 ≤ z.block := by rw [← h6]; exact h5
    omega)
  have HA1 := Lib.hid h1
  have HA2 := Lib.hid (fun z hz => (h2 z hz).2)
  clear h1 h2 h3 HAr t0 t1 t2 t3 t4 s0 s1 s2 s3 HS HZ HT
  obtain ⟨s0, s1, s2, s3⟩ := schC_of HS1.out
  simp only [List.length_nil] at s0 s1 s2 s3
  go_wp2_with fail
  refine HL1.out.mono ?_
  rintro _ w2 ⟨sa, sc, ca, cc, rfl, i1, -, j1, -, b2⟩
  have B2 := Lib.hid (below_step B1.out b2)
  have HS2 := Lib.hid (box_below HS1.out b2); have HZ2 := Lib.hid (box_below HZ1.out b2)
  have hl1 : w.heap.size + 2 < w1.heap.size := lt_of_block HZ1.out
  have I1 := Lib.hid i1
  have J1 := Lib.hid (show ∀ z, sa = some z → ¬ z.block = w.heap.size + 1 ∧ ¬ z.block = w.heap.size + 2 ∧ w.heap.size ≤ z.block from fun z hz => by have := j1 z hz; omega)
  have HA3 := Lib.hid (HA1.out.below b2)
  have HA4 := Lib.hid (fun z hz => Nat.lt_of_lt_of_le (HA2.out z hz) b2.size)
  clear i1 j1 b2 HL1 s0 s1 s2 s3 HS1 HZ1 HA1 HA2 B1 hl1
  generalize (natsI (Cy.lvC (o.length : Int) p (arcsC c o))).length = cl at *
  generalize Cy.lvB (o.length : Int) p (arcsC c o) = vb at *
  generalize Cy.lvS (o.length : Int) p (arcsC c o) = S at *
  have s0 : w2.cell? ⟨w.heap.size + 1, 0, none⟩ = some (.int .i64 p) := box_cell HS2.out 0 _ rfl
  have s2 : w2.cell? ⟨w.heap.size + 1, 2, none⟩ = some (.slice none 0 0) := box_cell HS2.out 2 _ rfl
  have f2 : w2.frozen? ⟨w.heap.size + 1, 2, none⟩ = false := box_fz HS2.out 2
  have l2 : w.heap.size + 1 < w2.heap.size := lt_of_block HS2.out
  go_upto_region 3 with (fail)
  have HS3 := Lib.hid (show (w2.setCell ⟨w.heap.size + 1, 2, none⟩ (.slice sa S.length sc)).heap[w.heap.size + 1]? = some (.cells #[.int .i64 p, .slice oa o.length oc, .slice sa S.length sc, .slice none 0 0] 30) from block_set (o := 2) HS2.out (.slice sa S.length sc))
  have hc : Ch (fun i => i = w.heap.size + 1) w2 (w2.setCell ⟨w.heap.size + 1, 2, none⟩ (.slice sa S.length sc)) := Ch.grown (grown_set (w := w2) (w.heap.size + 1) 2 _) (fun i e => by injection e with e; exact e.symm)
  have HZ3 := Lib.hid ((hc.block (w.heap.size + 2) (lt_of_block HZ2.out) (by omega)).trans HZ2.out)
  have B3 := Lib.hid (B2.out.grown (grown_set (w := w2) (w.heap.size + 1) 2 (.slice sa S.length sc)) B2.out.size (fun i e => by injection e with e; omega))
  have I3 := Lib.hid (I1.out.ch hc (fun z hz => (J1.out z hz).1))
  have HXx : ∀ z, x = some z → ¬ z.block = w.heap.size + 1 := HNE.out
  have HA5 := Lib.hid (HA3.out.ch hc (fun z hz => HXx z hz))
  have HA6 := Lib.hid (show ∀ z, x = some z → z.block < (w2.setCell ⟨w.heap.size + 1, 2, none⟩ (.slice sa S.length sc)).heap.size from fun z hz => by simpa [World.setCell] using HA4.out z hz)
  clear hc HXx s0 s2 f2 l2 HS2 HZ2 I1 HA3 HA4 B2
  generalize w2.setCell ⟨w.heap.size + 1, 2, none⟩ (.slice sa S.length sc) = w3 at *
  have s0 : w3.cell? ⟨w.heap.size + 1, 0, none⟩ = some (.int .i64 p) := box_cell HS3.out 0 _ rfl
  have s1 : w3.cell? ⟨w.heap.size + 1, 1, none⟩ = some (.slice oa o.length oc) := box_cell HS3.out 1 _ rfl
  by_cases hp1 : 1 < p
  · rw [if_pos hp1] at HE
    have HL3 := Lib.hid (HLv.out (p - 1) x y w3 HA5.out HA6.out)
    generalize Cy.lvB (o.length : Int) (p - 1) (arcsC c o) = vb2 at *
    generalize natsI (Cy.lvC (o.length : Int) (p - 1) (arcsC c o)) = Q at *
    generalize (Cy.lvS (o.length : Int) (p - 1) (arcsC c o)).length = sl2 at *
    go_wp2_with fail
    refine HL3.out.mono ?_
    rintro _ w4 ⟨sa2, sc2, qa, qc, rfl, -, i4, -, j4, b4⟩
    have B4 := Lib.hid (below_step B3.out b4)
    have HS4 := Lib.hid (box_below HS3.out b4); have HZ4 := Lib.hid (box_below HZ3.out b4)
    have hl4 : w.heap.size + 2 < w3.heap.size := lt_of_block HZ3.out
    have I4 := Lib.hid (I3.out.below b4)
    have I5 := Lib.hid i4
    have J5 := Lib.hid (show ∀ z, qa = some z → ¬ z.block = w.heap.size + 1 ∧ ¬ z.block = w.heap.size + 2 ∧ w.heap.size ≤ z.block from fun z hz => by have := j4 z hz; omega)
    clear i4 j4 b4 HL3 s0 s1 HS3 HZ3 I3 B3 hl4 HA5 HA6
    have s3 : w4.cell? ⟨w.heap.size + 1, 3, none⟩ = some (.slice none 0 0) := box_cell HS4.out 3 _ rfl
    have f3 : w4.frozen? ⟨w.heap.size + 1, 3, none⟩ = false := box_fz HS4.out 3
    have l3 : w.heap.size + 1 < w4.heap.size := lt_of_block HS4.out
    go_upto_region 5 with (fail)
    have HS5 := Lib.hid (show (w4.setCell ⟨w.heap.size + 1, 3, none⟩ (.slice qa Q.length qc)).heap[w.heap.size + 1]? = some (.cells #[.int .i64 p, .slice oa o.length oc, .slice sa S.length sc, .slice qa Q.length qc] 30) from block_set (o := 3) HS4.out (.slice qa Q.length qc))
    have hc : Ch (fun i => i = w.heap.size + 1) w4 (w4.setCell ⟨w.heap.size + 1, 3, none⟩ (.slice qa Q.length qc)) := Ch.grown (grown_set (w := w4) (w.heap.size + 1) 3 _) (fun i e => by injection e with e; exact e.symm)
    have HZ5 := Lib.hid ((hc.block (w.heap.size + 2) (lt_of_block HZ4.out) (by omega)).trans HZ4.out)
    have B5 := Lib.hid (B4.out.grown (grown_set (w := w4) (w.heap.size + 1) 3 (.slice qa Q.length qc)) B4.out.size (fun i e => by injection e with e; omega))
    have I6 := Lib.hid (I4.out.ch hc (fun z hz => (J1.out z hz).1))
    have I7 := Lib.hid (I5.out.ch hc (fun z hz => (J5.out z hz).1))
    clear hc s3 f3 l3 HS4 HZ4 I4 I5 B4
    generalize w4.setCell ⟨w.heap.size + 1, 3, none⟩ (.slice qa Q.length qc) = w5 at *
    have s0 : w5.cell? ⟨w.heap.size + 1, 0, none⟩ = some (.int .i64 p) := box_cell HS5.out 0 _ rfl
    have s1 : w5.cell? ⟨w.heap.size + 1, 1, none⟩ = some (.slice oa o.length oc) := box_cell HS5.out 1 _ rfl
    have s2 : w5.cell? ⟨w.heap.size + 1, 2, none⟩ = some (.slice sa S.length sc) := box_cell HS5.out 2 _ rfl
    have s3 : w5.cell? ⟨w.heap.size + 1, 3, none⟩ = some (.slice qa Q.length qc) := box_cell HS5.out 3 _ rfl
    have z0 : w5.cell? ⟨w.heap.size + 2, 0, none⟩ = some (.int .i64 0) := box_cell HZ5.out 0 _ rfl
    have f0 : w5.frozen? ⟨w.heap.size + 2, 0, none⟩ = false := box_fz HZ5.out 0
    have z1 : w5.cell? ⟨w.heap.size + 2, 1, none⟩ = some (.slice none 0 0) := box_cell HZ5.out 1 _ rfl
    have f1 : w5.frozen? ⟨w.heap.size + 2, 1, none⟩ = false := box_fz HZ5.out 1
    have z2 : w5.cell? ⟨w.heap.size + 2, 2, none⟩ = some (.slice none 0 0) := box_cell HZ5.out 2 _ rfl
    have f2 : w5.frozen? ⟨w.heap.size + 2, 2, none⟩ = false := box_fz HZ5.out 2
    have z3 : w5.cell? ⟨w.heap.size + 2, 3, none⟩ = some (.slice none 0 0) := box_cell HZ5.out 3 _ rfl
    have f3 : w5.frozen? ⟨w.heap.size + 2, 3, none⟩ = false := box_fz HZ5.out 3
    have lz : w.heap.size + 2 < w5.heap.size := lt_of_block HZ5.out
    have HF := Lib.hid (show ∀ W, w5.grownBy W (some (w.heap.size + 2)) → IntsA W oa oc o ∧ IntsA W sa sc S ∧ IntsA W qa qc Q ∧ Below w.heap.size w W from fun W hg => by
      have hc : Ch (fun i => i = w.heap.size + 2) w5 W := Ch.grown hg (fun i e => by injection e with e; exact e.symm)
      have hB := B5.out.grown hg B5.out.size (fun i e => by injection e with e; omega)
      exact ⟨HOr.out.below hB, I6.out.ch hc (fun z hz => (J1.out z hz).2.1), I7.out.ch hc (fun z hz => (J5.out z hz).2.1), hB⟩)
    clear HS5 HZ5 B5 I6 HOr I7
    go_wp2_with fail
    have hg := grown_trans (grown_trans (grown_trans (grown_set (w := w5) (w.heap.size + 2) 0 (.int .i64 p)) (grown_set _ 1 (.slice oa o.length oc))) (grown_set _ 2 (.slice sa S.length sc))) (grown_set _ 3 (.slice qa Q.length qc))
    obtain ⟨h1, h2, h3, h4⟩ := HF.out _ hg
    refine bodyPost_ret (v := .agg #[.int .i64 p, .slice oa o.length oc, .slice sa S.length sc, .slice qa Q.length qc]) (by simp [results, Try.results45, go_sem, z0, z1, z2, z3]) rfl ?_
    rw [HE.out]
    exact ⟨sa, qa, sc, qc, rfl, h1, h2, h3, h4, fun x hx => (J1.out x hx).2.2, fun x hx => (J5.out x hx).2.2⟩
  · rw [if_neg hp1] at HE
    have HS5 := HS3; have HZ5 := HZ3; have B5 := B3; have I6 := I3
    clear HS3 HZ3 B3 I3 HLv HA5 HA6
    have s0 : w3.cell? ⟨w.heap.size + 1, 0, none⟩ = some (.int .i64 p) := box_cell HS5.out 0 _ rfl
    have s1 : w3.cell? ⟨w.heap.size + 1, 1, none⟩ = some (.slice oa o.length oc) := box_cell HS5.out 1 _ rfl
    have s2 : w3.cell? ⟨w.heap.size + 1, 2, none⟩ = some (.slice sa S.length sc) := box_cell HS5.out 2 _ rfl
    have s3 : w3.cell? ⟨w.heap.size + 1, 3, none⟩ = some (.slice none 0 0) := box_cell HS5.out 3 _ rfl
    have z0 : w3.cell? ⟨w.heap.size + 2, 0, none⟩ = some (.int .i64 0) := box_cell HZ5.out 0 _ rfl
    have f0 : w3.frozen? ⟨w.heap.size + 2, 0, none⟩ = false := box_fz HZ5.out 0
    have z1 : w3.cell? ⟨w.heap.size + 2, 1, none⟩ = some (.slice none 0 0) := box_cell HZ5.out 1 _ rfl
    have f1 : w3.frozen? ⟨w.heap.size + 2, 1, none⟩ = false := box_fz HZ5.out 1
    have z2 : w3.cell? ⟨w.heap.size + 2, 2, none⟩ = some (.slice none 0 0) := box_cell HZ5.out 2 _ rfl
    have f2 : w3.frozen? ⟨w.heap.size + 2, 2, none⟩ = false := box_fz HZ5.out 2
    have z3 : w3.cell? ⟨w.heap.size + 2, 3, none⟩ = some (.slice none 0 0) := box_cell HZ5.out 3 _ rfl
    have f3 : w3.frozen? ⟨w.heap.size + 2, 3, none⟩ = false := box_fz HZ5.out 3
    have lz : w.heap.size + 2 < w3.heap.size := lt_of_block HZ5.out
    have HF := Lib.hid (show ∀ W, w3.grownBy W (some (w.heap.size + 2)) → IntsA W oa oc o ∧ IntsA W sa sc S ∧ IntsA W none 0 [] ∧ Below w.heap.size w W from fun W hg => by
      have hc : Ch (fun i => i = w.heap.size + 2) w3 W := Ch.grown hg (fun i e => by injection e with e; exact e.symm)
      have hB := B5.out.grown hg B5.out.size (fun i e => by injection e with e; omega)
      exact ⟨HOr.out.below hB, I6.out.ch hc (fun z hz => (J1.out z hz).2.1), RowA.nil _ _ _, hB⟩)
    clear HS5 HZ5 B5 I6 HOr
    go_wp2_with fail
    have hg := grown_trans (grown_trans (grown_trans (grown_set (w := w3) (w.heap.size + 2) 0 (.int .i64 p)) (grown_set _ 1 (.slice oa o.length oc))) (grown_set _ 2 (.slice sa S.length sc))) (grown_set _ 3 (.slice none 0 0))
    obtain ⟨h1, h2, h3, h4⟩ := HF.out _ hg
    refine bodyPost_ret (v := .agg #[.int .i64 p, .slice oa o.length oc, .slice sa S.length sc, .slice none 0 0]) (by simp [results, Try.results45, go_sem, z0, z1, z2, z3]) rfl ?_
    rw [HE.out]
    exact ⟨sa, none, sc, 0, rfl, h1, h2, h3, h4, fun x hx => (J1.out x hx).2.2, fun x hx => (by cases hx)⟩
end Go.Proofs.Ytiolmcnngpaapaa
