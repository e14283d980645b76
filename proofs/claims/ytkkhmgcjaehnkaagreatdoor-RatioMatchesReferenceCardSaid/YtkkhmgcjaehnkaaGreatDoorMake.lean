/-
  Make, Round, Compare, Floor and Clamp, for all arguments.
-/
import Derived.Test.YtkkhmgcjaehnkaaGreatDoorOps
import Derived.Test.YtkkhmgcjaehnkaaGreatDoorRound
namespace Go.Proofs.YtkkhmgcjaehnkaaGreatDoor
open Go.RowKit Go.Shelf

/-- A number in a block of its own. -/
def IntAt (W : World) (A : Nat) (n : Int) : Prop := A < W.heap.size ∧ W.cell? ⟨A, 0, none⟩ = some (.int .i64 n)
theorem IntAt.below {W W' : World} {A : Nat} {n : Int} (h : IntAt W A n) (hb : Below W.heap.size W W') : IntAt W' A n :=
  ⟨Nat.lt_of_lt_of_le h.1 hb.size, (hb.cell (p := ⟨A, 0, none⟩) h.1).trans h.2⟩
theorem IntAt.new (w : World) (n : Int) : IntAt (w.alloc (.cells #[.int .i64 n] 3)) w.heap.size n := ⟨by simp, by simp [go_sem]⟩

set_option maxRecDepth 100000 in
set_option maxHeartbeats 400000 in
theorem Make1_yes (A B : Nat) (n d p q : Int) (W : World) (hA : IntAt W A n) (hB : IntAt W B d) (fn : Fits n) (fd : Fits d) (h : Ra.red n d = some (p, q)) :
    Calls Tryz.prog 29 #[.pointer (some ⟨A, 0, none⟩), .pointer (some ⟨B, 0, none⟩)] W fun e W' => e = .returned (ratV p q) ∧ Below W.heap.size W W' := by
  have hr := fun w => reduce_yes n d p q w fn.1 fn.2 fd.1 fd.2 h
  have HR := Lib.hid hr
  obtain ⟨y0, y1⟩ := hA.below (below_new W (.cells #[.int .i64 0, .int .i64 0] 25))
  obtain ⟨z0, z1⟩ := hB.below (below_new W (.cells #[.int .i64 0, .int .i64 0] 25))
  clear hr h hA hB fn fd
  go_enter Tryz.func29, Tryz.ntmps29
  go_wp2_with fail
  refine (HR.out _).mono ?_; rintro e w1 ⟨rfl, g1⟩
  have l1 := below_step (below_new W _) g1
  have r0 := (BoxAt.new W 0 0).below g1
  have fr : ∀ o, w1.frozen? ⟨W.heap.size, o, none⟩ = false := fun o => by
    rw [g1.frozen (p := ⟨W.heap.size, o, none⟩) (by simp)]; simp [go_sem]
  obtain ⟨r1, r2, r3⟩ := r0
  clear y0 y1 z0 z1
  go_wp2_with fail
  refine bodyPost_ret (v := ratV p q) (by simp [results, Tryz.results29, go_sem, r2, r3]) rfl ⟨rfl, ?_⟩
  exact (l1.setCell (by simp) _).setCell (by simp) _

set_option maxRecDepth 100000 in
set_option maxHeartbeats 400000 in
theorem Make1_no (A B : Nat) (n d : Int) (W : World) (a : Addr) (hN : NoneAt a W) (hA : IntAt W A n) (hB : IntAt W B d) (fn : Fits n) (fd : Fits d) (h : Ra.red n d = none) :
    Calls Tryz.prog 29 #[.pointer (some ⟨A, 0, none⟩), .pointer (some ⟨B, 0, none⟩)] W fun e W' => e = raised a ∧ Below W.heap.size W W' := by
  have hr := fun w hN => reduce_no n d w fn.1 fn.2 fd.1 fd.2 a hN h
  have HR := Lib.hid hr
  have HN := Lib.hid hN
  obtain ⟨y0, y1⟩ := hA.below (below_new W (.cells #[.int .i64 0, .int .i64 0] 25))
  obtain ⟨z0, z1⟩ := hB.below (below_new W (.cells #[.int .i64 0, .int .i64 0] 25))
  clear hr h hA hB fn fd hN
  go_enter Tryz.func29, Tryz.ntmps29
  go_wp2_with fail
  refine (HR.out _ (HN.out.below (below_new _ _))).mono ?_; rintro e w1 ⟨rfl, g1⟩
  have l1 := below_step (below_new W _) g1
  clear y0 y1 z0 z1
  go_wp2_with fail
  exact ⟨rfl, rfl, l1⟩

set_option maxRecDepth 100000 in
set_option maxHeartbeats 400000 in
theorem Make_any (n d : Int) (w : World) (a : Addr) (hN : NoneAt a w) (fn : Fits n) (fd : Fits d) :
    Calls Tryz.prog 5 #[.int .i64 n, .int .i64 d] w fun e w' => e = .returned (ratRes (Ra.red n d)) ∧ Below w.heap.size w w' := by
  have eK := enters_of Tryz.func29 (by kernel_rfl) rfl
  have hmf : ∀ (fn : Fn) (first cap : Array Value) (w : World), (Instr.makeFunc fn first cap).run Tryz.prog w = .ok (.func fn first cap) w := fun _ _ _ _ => rfl
  have ba := IntAt.new w n
  have bb := IntAt.new (w.alloc (.cells #[.int .i64 n] 3)) d
  have l0 : Below w.heap.size w ((w.alloc (.cells #[.int .i64 n] 3)).alloc (.cells #[.int .i64 d] 3)) := (below_new w _).alloc (by simp) _
  have ba2 := ba.below (below_new _ (.cells #[.int .i64 d] 3))
  rw [World.size_alloc] at bb
  cases h : Ra.red n d with
  | some x =>
    obtain ⟨p, q⟩ := x
    show Calls _ _ _ _ fun e w' => e = .returned (.tuple #[ratV p q, .int .i64 0]) ∧ Below w.heap.size w w'
    have hc : ∀ W, Below (((w.alloc (.cells #[.int .i64 n] 3)).alloc (.cells #[.int .i64 d] 3)).alloc (.cells #[.int .i64 0, .int .i64 0] 25)).heap.size (((w.alloc (.cells #[.int .i64 n] 3)).alloc (.cells #[.int .i64 d] 3)).alloc (.cells #[.int .i64 0, .int .i64 0] 25)) W →
        Calls Tryz.prog 29 #[.pointer (some ⟨w.heap.size, 0, none⟩), .pointer (some ⟨w.heap.size + 1, 0, none⟩)] W fun e W' => e = .returned (ratV p q) ∧ Below W.heap.size W W' := fun W hW =>
      Make1_yes _ _ n d p q W ((ba2.below (below_new _ _)).below hW) ((bb.below (below_new _ _)).below hW) fn fd h
    have HC := Lib.hid hc
    clear hc h fn fd ba bb ba2 hN
    have HL := Lib.hid l0; clear l0
    go_enter Tryz.func5, Tryz.ntmps5
    go_wp2_with fail
    refine (attempt_yes 29 _ p q _ (eK _) HC.out).mono ?_; rintro e w1 ⟨rfl, g1⟩
    have l1 := below_step (below_step HL.out (below_new _ _)) g1
    have r0 := (BoxAt.new _ 0 0).below g1
    have fr : ∀ o, w1.frozen? ⟨w.heap.size + 1 + 1, o, none⟩ = false := fun o => by
      rw [g1.frozen (p := ⟨w.heap.size + 1 + 1, o, none⟩) (by simp)]; simp [go_sem]
    obtain ⟨r1, r2, r3⟩ := r0
    simp only [World.size_alloc] at r1 r2 r3
    go_wp2_with fail
    refine bodyPost_ret (v := .tuple #[ratV p q, .int .i64 0]) (by simp [results, Tryz.results5, go_sem, r2, r3]) rfl ⟨rfl, ?_⟩
    exact (l1.setCell (by simp; omega) _).setCell (by simp; omega) _
  | none =>
    show Calls _ _ _ _ fun e w' => e = .returned (.tuple #[ratV 0 0, .int .i64 30]) ∧ Below w.heap.size w w'
    have hn2 := (hN.below l0).below (below_new _ (.cells #[.int .i64 0, .int .i64 0] 25))
    have hc : ∀ W, Below (((w.alloc (.cells #[.int .i64 n] 3)).alloc (.cells #[.int .i64 d] 3)).alloc (.cells #[.int .i64 0, .int .i64 0] 25)).heap.size (((w.alloc (.cells #[.int .i64 n] 3)).alloc (.cells #[.int .i64 d] 3)).alloc (.cells #[.int .i64 0, .int .i64 0] 25)) W →
        Calls Tryz.prog 29 #[.pointer (some ⟨w.heap.size, 0, none⟩), .pointer (some ⟨w.heap.size + 1, 0, none⟩)] W fun e W' => e = raised a ∧ Below W.heap.size W W' := fun W hW =>
      Make1_no _ _ n d W a (hn2.below hW) ((ba2.below (below_new _ _)).below hW) ((bb.below (below_new _ _)).below hW) fn fd h
    have HC := Lib.hid hc
    clear hc h fn fd ba bb ba2 hN
    have HL := Lib.hid l0; clear l0
    have HN := Lib.hid hn2; clear hn2
    go_enter Tryz.func5, Tryz.ntmps5
    go_wp2_with fail
    refine (attempt_no 29 _ a _ HN.out (eK _) HC.out).mono ?_; rintro e w1 ⟨rfl, g1⟩
    have l1 := below_step (below_step HL.out (below_new _ _)) g1
    have r0 := (BoxAt.new _ 0 0).below g1
    have fr : ∀ o, w1.frozen? ⟨w.heap.size + 1 + 1, o, none⟩ = false := fun o => by
      rw [g1.frozen (p := ⟨w.heap.size + 1 + 1, o, none⟩) (by simp)]; simp [go_sem]
    obtain ⟨r1, r2, r3⟩ := r0
    simp only [World.size_alloc] at r1 r2 r3
    go_wp2_with fail
    refine bodyPost_ret (v := .tuple #[ratV 0 0, .int .i64 30]) (by simp [results, Tryz.results5, go_sem, r2, r3]) rfl ⟨rfl, ?_⟩
    exact (l1.setCell (by simp; omega) _).setCell (by simp; omega) _

/-! ### Compare, Floor -/
def cmpR (an ad bn bd : Int) : Int := if Ra.Ok an ad ∧ Ra.Ok bn bd then (if an * bd < bn * ad then -1 else if bn * ad < an * bd then 1 else 0) else 0
set_option maxRecDepth 100000 in
set_option maxHeartbeats 400000 in
theorem Compare_any (an ad bn bd : Int) (w : World) (fa : Fits an ∧ Fits ad) (fb : Fits bn ∧ Fits bd) :
    Calls Tryz.prog 20 #[ratV an ad, ratV bn bd] w fun e w' => e = .returned (.int .i64 (cmpR an ad bn bd)) ∧ Below w.heap.size w w' := by
  have va := fun w => valid_any an ad w fa.1.1 fa.1.2 fa.2.1 fa.2.2
  have vb := fun w => valid_any bn bd w fb.1.1 fb.1.2 fb.2.1 fb.2.2
  have ba := (BoxAt.new w an ad).below (below_new _ (.cells #[.int .i64 bn, .int .i64 bd] 25))
  have bb := BoxAt.new (w.alloc (.cells #[.int .i64 an, .int .i64 ad] 25)) bn bd
  have l0 : Below w.heap.size w ((w.alloc (.cells #[.int .i64 an, .int .i64 ad] 25)).alloc (.cells #[.int .i64 bn, .int .i64 bd] 25)) := (below_new w _).alloc (by simp) _
  rw [World.size_alloc] at bb
  by_cases oa : Ra.Ok an ad
  case neg =>
    have hv : cmpR an ad bn bd = 0 := if_neg fun h => oa h.1
    rw [okB_false oa] at va
    have VA := Lib.hid va; have HV := Lib.hid hv; have HL := Lib.hid l0
    clear va vb ba bb l0 hv oa fa fb
    go_enter Tryz.func20, Tryz.ntmps20
    go_wp2_with fail
    refine (VA.out _).mono ?_; rintro e w1 ⟨rfl, g1⟩
    have l1 := below_step HL.out g1
    go_wp2_with fail
    go_ret
    exact ⟨by rw [HV.out]; rfl, l1⟩
  rw [okB_true oa] at va
  by_cases ob : Ra.Ok bn bd
  case neg =>
    have hv : cmpR an ad bn bd = 0 := if_neg fun h => ob h.2
    rw [okB_false ob] at vb
    have VA := Lib.hid va; have VB := Lib.hid vb; have HV := Lib.hid hv; have HL := Lib.hid l0; have BB := Lib.hid bb
    clear va vb ba bb l0 hv oa ob fa fb
    go_enter Tryz.func20, Tryz.ntmps20
    go_wp2_with fail
    refine (VA.out _).mono ?_; rintro e w1 ⟨rfl, g1⟩
    have l1 := below_step HL.out g1
    obtain ⟨z0, z1, z2⟩ := BB.out.below g1
    go_wp2_with fail
    refine (VB.out _).mono ?_; rintro e w2 ⟨rfl, g2⟩
    have l2 := below_step l1 g2
    clear z0 z1 z2
    go_wp2_with fail
    go_ret
    exact ⟨by rw [HV.out]; rfl, l2⟩
  rw [okB_true ob] at vb
  have hv : cmpR an ad bn bd = if an * bd < bn * ad then -1 else if bn * ad < an * bd then 1 else 0 := if_pos ⟨oa, ob⟩
  have pa := Ra.prod_bd (a := an) (b := bd) oa.2.2.1 oa.2.2.2.1 (by have := ob.1; omega) ob.2.1
  have pb := Ra.prod_bd (a := bn) (b := ad) ob.2.2.1 ob.2.2.2.1 (by have := oa.1; omega) oa.2.1
  have e1 : wrap64 (an * bd) = an * bd := IntWalk.wrap64_in _ ⟨by omega, by omega⟩
  have e2 : wrap64 (bn * ad) = bn * ad := IntWalk.wrap64_in _ ⟨by omega, by omega⟩
  have hcm := fun w => cmp_any (an * bd) (bn * ad) w (cmpR an ad bn bd) (by rw [hv]; split <;> (try split) <;> omega)
  have VA := Lib.hid va; have VB := Lib.hid vb; have HC := Lib.hid hcm; have HL := Lib.hid l0; have BB := Lib.hid bb; have BA := Lib.hid ba
  clear va vb ba bb l0 hv oa ob fa fb hcm pa pb
  go_enter Tryz.func20, Tryz.ntmps20
  go_wp2_with fail
  refine (VA.out _).mono ?_; rintro e w1 ⟨rfl, g1⟩
  have l1 := below_step HL.out g1
  obtain ⟨z0, z1, z2⟩ := BB.out.below g1
  go_wp2_with fail
  refine (VB.out _).mono ?_; rintro e w2 ⟨rfl, g2⟩
  have l2 := below_step l1 g2
  clear z0 z1 z2
  obtain ⟨x0, x1, x2⟩ := (BA.out.below g1).below g2
  obtain ⟨v0, v1, v2⟩ := (BB.out.below g1).below g2
  go_wp2_with fail
  refine (HC.out _).mono ?_; rintro e w3 ⟨rfl, rfl⟩
  clear x0 x1 x2 v0 v1 v2
  go_wp2_with fail
  go_ret
  exact ⟨rfl, l2⟩

def floorR (n d : Int) : Int := if Ra.Ok n d then Ra.flo n d else 0
set_option maxRecDepth 100000 in
set_option maxHeartbeats 400000 in
theorem Floor_any (n d : Int) (w : World) (fa : Fits n ∧ Fits d) :
    Calls Tryz.prog 22 #[ratV n d] w fun e w' => e = .returned (.int .i64 (floorR n d)) ∧ Below w.heap.size w w' := by
  have va := fun w => valid_any n d w fa.1.1 fa.1.2 fa.2.1 fa.2.2
  have ba := BoxAt.new w n d
  by_cases oa : Ra.Ok n d
  · have hv : floorR n d = Ra.flo n d := if_pos oa
    rw [okB_true oa] at va
    have hq := fun w => floorQ_any n d w (by have := oa.2.2.1; omega) (by have := oa.2.2.2.1; omega) (by have := oa.1; omega) (by have := oa.2.1; omega)
    have VA := Lib.hid va; have HV := Lib.hid hv; have HQ := Lib.hid hq; have BA := Lib.hid ba
    clear va ba hv oa fa hq
    go_enter Tryz.func22, Tryz.ntmps22
    go_wp2_with fail
    refine (VA.out _).mono ?_; rintro e w1 ⟨rfl, g1⟩
    have l1 := below_step (below_new w _) g1
    obtain ⟨z0, z1, z2⟩ := BA.out.below g1
    go_wp2_with fail
    refine (HQ.out _).mono ?_; rintro e w2 ⟨rfl, rfl⟩
    clear z0 z1 z2
    go_wp2_with fail
    go_ret
    exact ⟨by rw [HV.out]; rfl, l1⟩
  · have hv : floorR n d = 0 := if_neg oa
    rw [okB_false oa] at va
    have VA := Lib.hid va; have HV := Lib.hid hv
    clear va ba hv oa fa
    go_enter Tryz.func22, Tryz.ntmps22
    go_wp2_with fail
    refine (VA.out _).mono ?_; rintro e w1 ⟨rfl, g1⟩
    have l1 := below_step (below_new w _) g1
    go_wp2_with fail
    go_ret
    exact ⟨by rw [HV.out]; rfl, l1⟩
end Go.Proofs.YtkkhmgcjaehnkaaGreatDoor
