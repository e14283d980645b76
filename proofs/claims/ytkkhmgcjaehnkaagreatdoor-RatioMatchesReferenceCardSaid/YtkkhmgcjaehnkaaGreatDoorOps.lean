/-
  The closures of Add, Sub, Mul and Div: they return the fraction of the quotient, or raise the package's error; and the four functions.
-/
import Derived.Test.YtkkhmgcjaehnkaaGreatDoorAttempt
import Derived.Shelf.Abstract
namespace Go.Proofs.YtkkhmgcjaehnkaaGreatDoor
open Go.RowKit Go.Shelf

/-- A fraction in a block of its own. -/
def BoxAt (W : World) (A : Nat) (n d : Int) : Prop := A < W.heap.size ∧ W.cell? ⟨A, 0, none⟩ = some (.int .i64 n) ∧ W.cell? ⟨A, 1, none⟩ = some (.int .i64 d)
theorem BoxAt.below {W W' : World} {A : Nat} {n d : Int} (h : BoxAt W A n d) (hb : Below W.heap.size W W') : BoxAt W' A n d :=
  ⟨Nat.lt_of_lt_of_le h.1 hb.size, (hb.cell (p := ⟨A, 0, none⟩) h.1).trans h.2.1, (hb.cell (p := ⟨A, 1, none⟩) h.1).trans h.2.2⟩
theorem BoxAt.new (w : World) (n d : Int) : BoxAt (w.alloc (.cells #[.int .i64 n, .int .i64 d] 25)) w.heap.size n d :=
  ⟨by simp, by simp [go_sem], by simp [go_sem]⟩
/-- A number that an int holds. -/
def Fits (n : Int) : Prop := -9223372036854775808 ≤ n ∧ n ≤ 9223372036854775807


set_option maxRecDepth 100000 in
set_option maxHeartbeats 400000 in
theorem Add1_yes (A B : Nat) (an ad bn bd p q : Int) (W : World) (hA : BoxAt W A an ad) (hB : BoxAt W B bn bd) (oa : Ra.Ok an ad) (ob : Ra.Ok bn bd) (h : Ra.red (an * bd + bn * ad) (ad * bd) = some (p, q)) :
    Calls Tryz.prog 33 #[.pointer (some ⟨A, 0, none⟩), .pointer (some ⟨B, 0, none⟩)] W fun e W' => e = .returned (ratV p q) ∧ Below W.heap.size W W' := by
  have ka := fun w => check_yes an ad w oa
  have kb := fun w => check_yes bn bd w ob
  obtain ⟨a1, a2, a3, a4, -⟩ := oa
  obtain ⟨b1, b2, b3, b4, -⟩ := ob
  obtain ⟨p1, q1⟩ := Ra.prod_bd (a := an) (b := bd) (by omega) (by omega) (by omega) (by omega)
  have e1 : wrap64 (an * bd) = an * bd := IntWalk.wrap64_in _ ⟨by omega, by omega⟩
  obtain ⟨p2, q2⟩ := Ra.prod_bd (a := bn) (b := ad) (by omega) (by omega) (by omega) (by omega)
  have e2 : wrap64 (bn * ad) = bn * ad := IntWalk.wrap64_in _ ⟨by omega, by omega⟩
  obtain ⟨p3, q3⟩ := Ra.prod_bd (a := ad) (b := bd) (by omega) (by omega) (by omega) (by omega)
  have e3 : wrap64 (ad * bd) = ad * bd := IntWalk.wrap64_in _ ⟨by omega, by omega⟩
  have e4 : wrap64 (an * bd + bn * ad) = an * bd + bn * ad := IntWalk.wrap64_in _ ⟨by omega, by omega⟩
  have hr := fun w => reduce_yes (an * bd + bn * ad) (ad * bd) p q w (by omega) (by omega) (by omega) (by omega) h
  have KA := Lib.hid ka; have KB := Lib.hid kb; have HR := Lib.hid hr; have HA := Lib.hid hA; have HB := Lib.hid hB
  have ha0 := hA.2.1; have ha1 := hA.2.2; have hb0 := hB.2.1; have hb1 := hB.2.2
  have n1 : A ≠ W.heap.size := Nat.ne_of_lt hA.1
  have n2 : B ≠ W.heap.size := Nat.ne_of_lt hB.1
  clear ka kb hr hA hB h
  obtain ⟨y0, y1, y2⟩ := HA.out.below (below_new W (.cells #[.int .i64 0, .int .i64 0] 25))
  clear ha0 ha1 hb0 hb1 n1 n2
  go_enter Tryz.func33, Tryz.ntmps33
  go_wp2_with fail
  refine (KA.out _).mono ?_; rintro e w1 ⟨rfl, g1⟩
  have l1 := below_step (below_new W _) g1
  obtain ⟨z0, z1, z2⟩ := HB.out.below l1
  clear y0 y1 y2
  go_wp2_with fail
  refine (KB.out _).mono ?_; rintro e w2 ⟨rfl, g2⟩
  have l2 := below_step l1 g2
  clear z0 z1 z2
  obtain ⟨x0, x1, x2⟩ := HA.out.below l2
  obtain ⟨v0, v1, v2⟩ := HB.out.below l2
  go_wp2_with fail
  refine (HR.out _).mono ?_; rintro e w3 ⟨rfl, g3⟩
  have l3 := below_step l2 g3
  have r0 : BoxAt w3 W.heap.size 0 0 := ((((BoxAt.new W 0 0).below g1).below g2).below g3)
  have fr : ∀ o, w3.frozen? ⟨W.heap.size, o, none⟩ = false := fun o => by
    rw [g3.frozen (p := ⟨W.heap.size, o, none⟩) ((BoxAt.new W 0 0).below g1 |>.below g2).1, g2.frozen (p := ⟨W.heap.size, o, none⟩) ((BoxAt.new W 0 0).below g1).1, g1.frozen (p := ⟨W.heap.size, o, none⟩) (BoxAt.new W 0 0).1]
    simp [go_sem]
  obtain ⟨r1, r2, r3⟩ := r0
  clear x0 x1 x2 v0 v1 v2
  go_wp2_with fail
  refine bodyPost_ret (v := ratV p q) (by simp [results, Tryz.results33, go_sem, r2, r3]) rfl ⟨rfl, ?_⟩
  exact (l3.setCell (by simp) _).setCell (by simp) _

set_option maxRecDepth 100000 in
set_option maxHeartbeats 400000 in
theorem Add1_no (A B : Nat) (an ad bn bd : Int) (W : World) (a : Addr) (hN : NoneAt a W) (hA : BoxAt W A an ad) (hB : BoxAt W B bn bd) (fa : Fits an ∧ Fits ad) (fb : Fits bn ∧ Fits bd) (h : Ra.Ok an ad → Ra.Ok bn bd → Ra.red (an * bd + bn * ad) (ad * bd) = none) :
    Calls Tryz.prog 33 #[.pointer (some ⟨A, 0, none⟩), .pointer (some ⟨B, 0, none⟩)] W fun e W' => e = raised a ∧ Below W.heap.size W W' := by
  have HA := Lib.hid hA; have HB := Lib.hid hB; have HN := Lib.hid hN
  have n1 : A ≠ W.heap.size := Nat.ne_of_lt hA.1
  clear hA hB hN
  obtain ⟨y0, y1, y2⟩ := HA.out.below (below_new W (.cells #[.int .i64 0, .int .i64 0] 25))
  clear n1
  by_cases oa : Ra.Ok an ad
  case neg =>
    have ka := fun w hN => check_no an ad w fa.1.1 fa.1.2 fa.2.1 fa.2.2 a hN oa
    have KA := Lib.hid ka; clear ka oa h fa fb
    go_enter Tryz.func33, Tryz.ntmps33
    go_wp2_with fail
    refine (KA.out _ (HN.out.below (below_new _ _))).mono ?_; rintro e w1 ⟨rfl, g1⟩
    have l1 := below_step (below_new W _) g1
    go_wp2_with fail
    exact ⟨rfl, rfl, l1⟩
  have ka := fun w => check_yes an ad w oa
  have KA := Lib.hid ka
  by_cases ob : Ra.Ok bn bd
  case neg =>
    have kb := fun w hN => check_no bn bd w fb.1.1 fb.1.2 fb.2.1 fb.2.2 a hN ob
    have KB := Lib.hid kb; clear ka kb oa ob h fa fb
    go_enter Tryz.func33, Tryz.ntmps33
    go_wp2_with fail
    refine (KA.out _).mono ?_; rintro e w1 ⟨rfl, g1⟩
    have l1 := below_step (below_new W _) g1
    obtain ⟨z0, z1, z2⟩ := HB.out.below l1
    clear y0 y1 y2
    go_wp2_with fail
    refine (KB.out _ (HN.out.below l1)).mono ?_; rintro e w2 ⟨rfl, g2⟩
    have l2 := below_step l1 g2
    clear z0 z1 z2
    go_wp2_with fail
    exact ⟨rfl, rfl, l2⟩
  have h' := h oa ob
  have kb := fun w => check_yes bn bd w ob
  obtain ⟨a1, a2, a3, a4, -⟩ := oa
  obtain ⟨b1, b2, b3, b4, -⟩ := ob
  obtain ⟨p1, q1⟩ := Ra.prod_bd (a := an) (b := bd) (by omega) (by omega) (by omega) (by omega)
  have e1 : wrap64 (an * bd) = an * bd := IntWalk.wrap64_in _ ⟨by omega, by omega⟩
  obtain ⟨p2, q2⟩ := Ra.prod_bd (a := bn) (b := ad) (by omega) (by omega) (by omega) (by omega)
  have e2 : wrap64 (bn * ad) = bn * ad := IntWalk.wrap64_in _ ⟨by omega, by omega⟩
  obtain ⟨p3, q3⟩ := Ra.prod_bd (a := ad) (b := bd) (by omega) (by omega) (by omega) (by omega)
  have e3 : wrap64 (ad * bd) = ad * bd := IntWalk.wrap64_in _ ⟨by omega, by omega⟩
  have e4 : wrap64 (an * bd + bn * ad) = an * bd + bn * ad := IntWalk.wrap64_in _ ⟨by omega, by omega⟩
  have hr := fun w hN => reduce_no (an * bd + bn * ad) (ad * bd) w (by omega) (by omega) (by omega) (by omega) a hN h'
  have KB := Lib.hid kb; have HR := Lib.hid hr
  clear ka kb hr h h' fa fb
  go_enter Tryz.func33, Tryz.ntmps33
  go_wp2_with fail
  refine (KA.out _).mono ?_; rintro e w1 ⟨rfl, g1⟩
  have l1 := below_step (below_new W _) g1
  obtain ⟨z0, z1, z2⟩ := HB.out.below l1
  clear y0 y1 y2
  go_wp2_with fail
  refine (KB.out _).mono ?_; rintro e w2 ⟨rfl, g2⟩
  have l2 := below_step l1 g2
  clear z0 z1 z2
  obtain ⟨x0, x1, x2⟩ := HA.out.below l2
  obtain ⟨v0, v1, v2⟩ := HB.out.below l2
  go_wp2_with fail
  refine (HR.out _ (HN.out.below l2)).mono ?_; rintro e w3 ⟨rfl, g3⟩
  have l3 := below_step l2 g3
  clear x0 x1 x2 v0 v1 v2
  go_wp2_with fail
  exact ⟨rfl, rfl, l3⟩

/-- What Add answers. -/
def addR (an ad bn bd : Int) : Option (Int × Int) := if Ra.Ok an ad ∧ Ra.Ok bn bd then Ra.red (an * bd + bn * ad) (ad * bd) else none
set_option maxRecDepth 100000 in
set_option maxHeartbeats 400000 in
theorem Add_any (an ad bn bd : Int) (w : World) (a : Addr) (hN : NoneAt a w) (fa : Fits an ∧ Fits ad) (fb : Fits bn ∧ Fits bd) :
    Calls Tryz.prog 8 #[ratV an ad, ratV bn bd] w fun e w' => e = .returned (ratRes (addR an ad bn bd)) ∧ Below w.heap.size w w' := by
  have eK := enters_of Tryz.func33 (by kernel_rfl) rfl
  have hmf : ∀ (fn : Fn) (first cap : Array Value) (w : World), (Instr.makeFunc fn first cap).run Tryz.prog w = .ok (.func fn first cap) w := fun _ _ _ _ => rfl
  have ba := BoxAt.new w an ad
  have bb := BoxAt.new (w.alloc (.cells #[.int .i64 an, .int .i64 ad] 25)) bn bd
  have l0 : Below w.heap.size w ((w.alloc (.cells #[.int .i64 an, .int .i64 ad] 25)).alloc (.cells #[.int .i64 bn, .int .i64 bd] 25)) := (below_new w _).alloc (by simp) _
  have ba2 := ba.below (below_new _ (.cells #[.int .i64 bn, .int .i64 bd] 25))
  rw [World.size_alloc] at bb
  cases h : addR an ad bn bd with
  | some x =>
    obtain ⟨p, q⟩ := x
    show Calls _ _ _ _ fun e w' => e = .returned (.tuple #[ratV p q, .int .i64 0]) ∧ Below w.heap.size w w'
    have hc : ∀ W, Below (((w.alloc (.cells #[.int .i64 an, .int .i64 ad] 25)).alloc (.cells #[.int .i64 bn, .int .i64 bd] 25)).alloc (.cells #[.int .i64 0, .int .i64 0] 25)).heap.size (((w.alloc (.cells #[.int .i64 an, .int .i64 ad] 25)).alloc (.cells #[.int .i64 bn, .int .i64 bd] 25)).alloc (.cells #[.int .i64 0, .int .i64 0] 25)) W →
        Calls Tryz.prog 33 #[.pointer (some ⟨w.heap.size, 0, none⟩), .pointer (some ⟨w.heap.size + 1, 0, none⟩)] W fun e W' => e = .returned (ratV p q) ∧ Below W.heap.size W W' := fun W hW => by
      unfold addR at h
      split at h
      · rename_i ho
        exact Add1_yes _ _ an ad bn bd p q W ((ba2.below (below_new _ _)).below hW) ((bb.below (below_new _ _)).below hW) ho.1 ho.2 h
      · cases h
    have HC := Lib.hid hc
    clear hc h fa fb ba bb ba2 hN
    have HL := Lib.hid l0; clear l0
    go_enter Tryz.func8, Tryz.ntmps8
    go_wp2_with fail
    refine (attempt_yes 33 _ p q _ (eK _) HC.out).mono ?_; rintro e w1 ⟨rfl, g1⟩
    have l1 := below_step (below_step HL.out (below_new _ _)) g1
    have r0 := (BoxAt.new _ 0 0).below g1
    have fr : ∀ o, w1.frozen? ⟨w.heap.size + 1 + 1, o, none⟩ = false := fun o => by
      rw [g1.frozen (p := ⟨w.heap.size + 1 + 1, o, none⟩) (by simp)]; simp [go_sem]
    obtain ⟨r1, r2, r3⟩ := r0
    simp only [World.size_alloc] at r1 r2 r3
    go_wp2_with fail
    refine bodyPost_ret (v := .tuple #[ratV p q, .int .i64 0]) (by simp [results, Tryz.results8, go_sem, r2, r3]) rfl ⟨rfl, ?_⟩
    exact (l1.setCell (by simp; omega) _).setCell (by simp; omega) _
  | none =>
    show Calls _ _ _ _ fun e w' => e = .returned (.tuple #[ratV 0 0, .int .i64 30]) ∧ Below w.heap.size w w'
    have hn2 := (hN.below l0).below (below_new _ (.cells #[.int .i64 0, .int .i64 0] 25))
    have hc : ∀ W, Below (((w.alloc (.cells #[.int .i64 an, .int .i64 ad] 25)).alloc (.cells #[.int .i64 bn, .int .i64 bd] 25)).alloc (.cells #[.int .i64 0, .int .i64 0] 25)).heap.size (((w.alloc (.cells #[.int .i64 an, .int .i64 ad] 25)).alloc (.cells #[.int .i64 bn, .int .i64 bd] 25)).alloc (.cells #[.int .i64 0, .int .i64 0] 25)) W →
        Calls Tryz.prog 33 #[.pointer (some ⟨w.heap.size, 0, none⟩), .pointer (some ⟨w.heap.size + 1, 0, none⟩)] W fun e W' => e = raised a ∧ Below W.heap.size W W' := fun W hW => by
      refine Add1_no _ _ an ad bn bd W a (hn2.below hW) ((ba2.below (below_new _ _)).below hW) ((bb.below (below_new _ _)).below hW) fa fb fun oa ob => ?_
      unfold addR at h
      rw [if_pos ⟨oa, ob⟩] at h; exact h
    have HC := Lib.hid hc
    clear hc h fa fb ba bb ba2 hN
    have HL := Lib.hid l0; clear l0
    have HN := Lib.hid hn2; clear hn2
    go_enter Tryz.func8, Tryz.ntmps8
    go_wp2_with fail
    refine (attempt_no 33 _ a _ HN.out (eK _) HC.out).mono ?_; rintro e w1 ⟨rfl, g1⟩
    have l1 := below_step (below_step HL.out (below_new _ _)) g1
    have r0 := (BoxAt.new _ 0 0).below g1
    have fr : ∀ o, w1.frozen? ⟨w.heap.size + 1 + 1, o, none⟩ = false := fun o => by
      rw [g1.frozen (p := ⟨w.heap.size + 1 + 1, o, none⟩) (by simp)]; simp [go_sem]
    obtain ⟨r1, r2, r3⟩ := r0
    simp only [World.size_alloc] at r1 r2 r3
    go_wp2_with fail
    refine bodyPost_ret (v := .tuple #[ratV 0 0, .int .i64 30]) (by simp [results, Tryz.results8, go_sem, r2, r3]) rfl ⟨rfl, ?_⟩
    exact (l1.setCell (by simp; omega) _).setCell (by simp; omega) _

set_option maxRecDepth 100000 in
set_option maxHeartbeats 400000 in
theorem Sub1_yes (A B : Nat) (an ad bn bd p q : Int) (W : World) (hA : BoxAt W A an ad) (hB : BoxAt W B bn bd) (oa : Ra.Ok an ad) (ob : Ra.Ok bn bd) (h : Ra.red (an * bd - bn * ad) (ad * bd) = some (p, q)) :
    Calls Tryz.prog 36 #[.pointer (some ⟨A, 0, none⟩), .pointer (some ⟨B, 0, none⟩)] W fun e W' => e = .returned (ratV p q) ∧ Below W.heap.size W W' := by
  have ka := fun w => check_yes an ad w oa
  have kb := fun w => check_yes bn bd w ob
  obtain ⟨a1, a2, a3, a4, -⟩ := oa
  obtain ⟨b1, b2, b3, b4, -⟩ := ob
  obtain ⟨p1, q1⟩ := Ra.prod_bd (a := an) (b := bd) (by omega) (by omega) (by omega) (by omega)
  have e1 : wrap64 (an * bd) = an * bd := IntWalk.wrap64_in _ ⟨by omega, by omega⟩
  obtain ⟨p2, q2⟩ := Ra.prod_bd (a := bn) (b := ad) (by omega) (by omega) (by omega) (by omega)
  have e2 : wrap64 (bn * ad) = bn * ad := IntWalk.wrap64_in _ ⟨by omega, by omega⟩
  obtain ⟨p3, q3⟩ := Ra.prod_bd (a := ad) (b := bd) (by omega) (by omega) (by omega) (by omega)
  have e3 : wrap64 (ad * bd) = ad * bd := IntWalk.wrap64_in _ ⟨by omega, by omega⟩
  have e4 : wrap64 (an * bd - bn * ad) = an * bd - bn * ad := IntWalk.wrap64_in _ ⟨by omega, by omega⟩
  have hr := fun w => reduce_yes (an * bd - bn * ad) (ad * bd) p q w (by omega) (by omega) (by omega) (by omega) h
  have KA := Lib.hid ka; have KB := Lib.hid kb; have HR := Lib.hid hr; have HA := Lib.hid hA; have HB := Lib.hid hB
  have ha0 := hA.2.1; have ha1 := hA.2.2; have hb0 := hB.2.1; have hb1 := hB.2.2
  have n1 : A ≠ W.heap.size := Nat.ne_of_lt hA.1
  have n2 : B ≠ W.heap.size := Nat.ne_of_lt hB.1
  clear ka kb hr hA hB h
  obtain ⟨y0, y1, y2⟩ := HA.out.below (below_new W (.cells #[.int .i64 0, .int .i64 0] 25))
  clear ha0 ha1 hb0 hb1 n1 n2
  go_enter Tryz.func36, Tryz.ntmps36
  go_wp2_with fail
  refine (KA.out _).mono ?_; rintro e w1 ⟨rfl, g1⟩
  have l1 := below_step (below_new W _) g1
  obtain ⟨z0, z1, z2⟩ := HB.out.below l1
  clear y0 y1 y2
  go_wp2_with fail
  refine (KB.out _).mono ?_; rintro e w2 ⟨rfl, g2⟩
  have l2 := below_step l1 g2
  clear z0 z1 z2
  obtain ⟨x0, x1, x2⟩ := HA.out.below l2
  obtain ⟨v0, v1, v2⟩ := HB.out.below l2
  go_wp2_with fail
  refine (HR.out _).mono ?_; rintro e w3 ⟨rfl, g3⟩
  have l3 := below_step l2 g3
  have r0 : BoxAt w3 W.heap.size 0 0 := ((((BoxAt.new W 0 0).below g1).below g2).below g3)
  have fr : ∀ o, w3.frozen? ⟨W.heap.size, o, none⟩ = false := fun o => by
    rw [g3.frozen (p := ⟨W.heap.size, o, none⟩) ((BoxAt.new W 0 0).below g1 |>.below g2).1, g2.frozen (p := ⟨W.heap.size, o, none⟩) ((BoxAt.new W 0 0).below g1).1, g1.frozen (p := ⟨W.heap.size, o, none⟩) (BoxAt.new W 0 0).1]
    simp [go_sem]
  obtain ⟨r1, r2, r3⟩ := r0
  clear x0 x1 x2 v0 v1 v2
  go_wp2_with fail
  refine bodyPost_ret (v := ratV p q) (by simp [results, Tryz.results36, go_sem, r2, r3]) rfl ⟨rfl, ?_⟩
  exact (l3.setCell (by simp) _).setCell (by simp) _

set_option maxRecDepth 100000 in
set_option maxHeartbeats 400000 in
theorem Sub1_no (A B : Nat) (an ad bn bd : Int) (W : World) (a : Addr) (hN : NoneAt a W) (hA : BoxAt W A an ad) (hB : BoxAt W B bn bd) (fa : Fits an ∧ Fits ad) (fb : Fits bn ∧ Fits bd) (h : Ra.Ok an ad → Ra.Ok bn bd → Ra.red (an * bd - bn * ad) (ad * bd) = none) :
    Calls Tryz.prog 36 #[.pointer (some ⟨A, 0, none⟩), .pointer (some ⟨B, 0, none⟩)] W fun e W' => e = raised a ∧ Below W.heap.size W W' := by
  have HA := Lib.hid hA; have HB := Lib.hid hB; have HN := Lib.hid hN
  have n1 : A ≠ W.heap.size := Nat.ne_of_lt hA.1
  clear hA hB hN
  obtain ⟨y0, y1, y2⟩ := HA.out.below (below_new W (.cells #[.int .i64 0, .int .i64 0] 25))
  clear n1
  by_cases oa : Ra.Ok an ad
  case neg =>
    have ka := fun w hN => check_no an ad w fa.1.1 fa.1.2 fa.2.1 fa.2.2 a hN oa
    have KA := Lib.hid ka; clear ka oa h fa fb
    go_enter Tryz.func36, Tryz.ntmps36
    go_wp2_with fail
    refine (KA.out _ (HN.out.below (below_new _ _))).mono ?_; rintro e w1 ⟨rfl, g1⟩
    have l1 := below_step (below_new W _) g1
    go_wp2_with fail
    exact ⟨rfl, rfl, l1⟩
  have ka := fun w => check_yes an ad w oa
  have KA := Lib.hid ka
  by_cases ob : Ra.Ok bn bd
  case neg =>
    have kb := fun w hN => check_no bn bd w fb.1.1 fb.1.2 fb.2.1 fb.2.2 a hN ob
    have KB := Lib.hid kb; clear ka kb oa ob h fa fb
    go_enter Tryz.func36, Tryz.ntmps36
    go_wp2_with fail
    refine (KA.out _).mono ?_; rintro e w1 ⟨rfl, g1⟩
    have l1 := below_step (below_new W _) g1
    obtain ⟨z0, z1, z2⟩ := HB.out.below l1
    clear y0 y1 y2
    go_wp2_with fail
    refine (KB.out _ (HN.out.below l1)).mono ?_; rintro e w2 ⟨rfl, g2⟩
    have l2 := below_step l1 g2
    clear z0 z1 z2
    go_wp2_with fail
    exact ⟨rfl, rfl, l2⟩
  have h' := h oa ob
  have kb := fun w => check_yes bn bd w ob
  obtain ⟨a1, a2, a3, a4, -⟩ := oa
  obtain ⟨b1, b2, b3, b4, -⟩ := ob
  obtain ⟨p1, q1⟩ := Ra.prod_bd (a := an) (b := bd) (by omega) (by omega) (by omega) (by omega)
  have e1 : wrap64 (an * bd) = an * bd := IntWalk.wrap64_in _ ⟨by omega, by omega⟩
  obtain ⟨p2, q2⟩ := Ra.prod_bd (a := bn) (b := ad) (by omega) (by omega) (by omega) (by omega)
  have e2 : wrap64 (bn * ad) = bn * ad := IntWalk.wrap64_in _ ⟨by omega, by omega⟩
  obtain ⟨p3, q3⟩ := Ra.prod_bd (a := ad) (b := bd) (by omega) (by omega) (by omega) (by omega)
  have e3 : wrap64 (ad * bd) = ad * bd := IntWalk.wrap64_in _ ⟨by omega, by omega⟩
  have e4 : wrap64 (an * bd - bn * ad) = an * bd - bn * ad := IntWalk.wrap64_in _ ⟨by omega, by omega⟩
  have hr := fun w hN => reduce_no (an * bd - bn * ad) (ad * bd) w (by omega) (by omega) (by omega) (by omega) a hN h'
  have KB := Lib.hid kb; have HR := Lib.hid hr
  clear ka kb hr h h' fa fb
  go_enter Tryz.func36, Tryz.ntmps36
  go_wp2_with fail
  refine (KA.out _).mono ?_; rintro e w1 ⟨rfl, g1⟩
  have l1 := below_step (below_new W _) g1
  obtain ⟨z0, z1, z2⟩ := HB.out.below l1
  clear y0 y1 y2
  go_wp2_with fail
  refine (KB.out _).mono ?_; rintro e w2 ⟨rfl, g2⟩
  have l2 := below_step l1 g2
  clear z0 z1 z2
  obtain ⟨x0, x1, x2⟩ := HA.out.below l2
  obtain ⟨v0, v1, v2⟩ := HB.out.below l2
  go_wp2_with fail
  refine (HR.out _ (HN.out.below l2)).mono ?_; rintro e w3 ⟨rfl, g3⟩
  have l3 := below_step l2 g3
  clear x0 x1 x2 v0 v1 v2
  go_wp2_with fail
  exact ⟨rfl, rfl, l3⟩

/-- What Sub answers. -/
def subR (an ad bn bd : Int) : Option (Int × Int) := if Ra.Ok an ad ∧ Ra.Ok bn bd then Ra.red (an * bd - bn * ad) (ad * bd) else none
set_option maxRecDepth 100000 in
set_option maxHeartbeats 400000 in
theorem Sub_any (an ad bn bd : Int) (w : World) (a : Addr) (hN : NoneAt a w) (fa : Fits an ∧ Fits ad) (fb : Fits bn ∧ Fits bd) :
    Calls Tryz.prog 10 #[ratV an ad, ratV bn bd] w fun e w' => e = .returned (ratRes (subR an ad bn bd)) ∧ Below w.heap.size w w' := by
  have eK := enters_of Tryz.func36 (by kernel_rfl) rfl
  have hmf : ∀ (fn : Fn) (first cap : Array Value) (w : World), (Instr.makeFunc fn first cap).run Tryz.prog w = .ok (.func fn first cap) w := fun _ _ _ _ => rfl
  have ba := BoxAt.new w an ad
  have bb := BoxAt.new (w.alloc (.cells #[.int .i64 an, .int .i64 ad] 25)) bn bd
  have l0 : Below w.heap.size w ((w.alloc (.cells #[.int .i64 an, .int .i64 ad] 25)).alloc (.cells #[.int .i64 bn, .int .i64 bd] 25)) := (below_new w _).alloc (by simp) _
  have ba2 := ba.below (below_new _ (.cells #[.int .i64 bn, .int .i64 bd] 25))
  rw [World.size_alloc] at bb
  cases h : subR an ad bn bd with
  | some x =>
    obtain ⟨p, q⟩ := x
    show Calls _ _ _ _ fun e w' => e = .returned (.tuple #[ratV p q, .int .i64 0]) ∧ Below w.heap.size w w'
    have hc : ∀ W, Below (((w.alloc (.cells #[.int .i64 an, .int .i64 ad] 25)).alloc (.cells #[.int .i64 bn, .int .i64 bd] 25)).alloc (.cells #[.int .i64 0, .int .i64 0] 25)).heap.size (((w.alloc (.cells #[.int .i64 an, .int .i64 ad] 25)).alloc (.cells #[.int .i64 bn, .int .i64 bd] 25)).alloc (.cells #[.int .i64 0, .int .i64 0] 25)) W →
        Calls Tryz.prog 36 #[.pointer (some ⟨w.heap.size, 0, none⟩), .pointer (some ⟨w.heap.size + 1, 0, none⟩)] W fun e W' => e = .returned (ratV p q) ∧ Below W.heap.size W W' := fun W hW => by
      unfold subR at h
      split at h
      · rename_i ho
        exact Sub1_yes _ _ an ad bn bd p q W ((ba2.below (below_new _ _)).below hW) ((bb.below (below_new _ _)).below hW) ho.1 ho.2 h
      · cases h
    have HC := Lib.hid hc
    clear hc h fa fb ba bb ba2 hN
    have HL := Lib.hid l0; clear l0
    go_enter Tryz.func10, Tryz.ntmps10
    go_wp2_with fail
    refine (attempt_yes 36 _ p q _ (eK _) HC.out).mono ?_; rintro e w1 ⟨rfl, g1⟩
    have l1 := below_step (below_step HL.out (below_new _ _)) g1
    have r0 := (BoxAt.new _ 0 0).below g1
    have fr : ∀ o, w1.frozen? ⟨w.heap.size + 1 + 1, o, none⟩ = false := fun o => by
      rw [g1.frozen (p := ⟨w.heap.size + 1 + 1, o, none⟩) (by simp)]; simp [go_sem]
    obtain ⟨r1, r2, r3⟩ := r0
    simp only [World.size_alloc] at r1 r2 r3
    go_wp2_with fail
    refine bodyPost_ret (v := .tuple #[ratV p q, .int .i64 0]) (by simp [results, Tryz.results10, go_sem, r2, r3]) rfl ⟨rfl, ?_⟩
    exact (l1.setCell (by simp; omega) _).setCell (by simp; omega) _
  | none =>
    show Calls _ _ _ _ fun e w' => e = .returned (.tuple #[ratV 0 0, .int .i64 30]) ∧ Below w.heap.size w w'
    have hn2 := (hN.below l0).below (below_new _ (.cells #[.int .i64 0, .int .i64 0] 25))
    have hc : ∀ W, Below (((w.alloc (.cells #[.int .i64 an, .int .i64 ad] 25)).alloc (.cells #[.int .i64 bn, .int .i64 bd] 25)).alloc (.cells #[.int .i64 0, .int .i64 0] 25)).heap.size (((w.alloc (.cells #[.int .i64 an, .int .i64 ad] 25)).alloc (.cells #[.int .i64 bn, .int .i64 bd] 25)).alloc (.cells #[.int .i64 0, .int .i64 0] 25)) W →
        Calls Tryz.prog 36 #[.pointer (some ⟨w.heap.size, 0, none⟩), .pointer (some ⟨w.heap.size + 1, 0, none⟩)] W fun e W' => e = raised a ∧ Below W.heap.size W W' := fun W hW => by
      refine Sub1_no _ _ an ad bn bd W a (hn2.below hW) ((ba2.below (below_new _ _)).below hW) ((bb.below (below_new _ _)).below hW) fa fb fun oa ob => ?_
      unfold subR at h
      rw [if_pos ⟨oa, ob⟩] at h; exact h
    have HC := Lib.hid hc
    clear hc h fa fb ba bb ba2 hN
    have HL := Lib.hid l0; clear l0
    have HN := Lib.hid hn2; clear hn2
    go_enter Tryz.func10, Tryz.ntmps10
    go_wp2_with fail
    refine (attempt_no 36 _ a _ HN.out (eK _) HC.out).mono ?_; rintro e w1 ⟨rfl, g1⟩
    have l1 := below_step (below_step HL.out (below_new _ _)) g1
    have r0 := (BoxAt.new _ 0 0).below g1
    have fr : ∀ o, w1.frozen? ⟨w.heap.size + 1 + 1, o, none⟩ = false := fun o => by
      rw [g1.frozen (p := ⟨w.heap.size + 1 + 1, o, none⟩) (by simp)]; simp [go_sem]
    obtain ⟨r1, r2, r3⟩ := r0
    simp only [World.size_alloc] at r1 r2 r3
    go_wp2_with fail
    refine bodyPost_ret (v := .tuple #[ratV 0 0, .int .i64 30]) (by simp [results, Tryz.results10, go_sem, r2, r3]) rfl ⟨rfl, ?_⟩
    exact (l1.setCell (by simp; omega) _).setCell (by simp; omega) _

set_option maxRecDepth 100000 in
set_option maxHeartbeats 400000 in
theorem Mul1_yes (A B : Nat) (an ad bn bd p q : Int) (W : World) (hA : BoxAt W A an ad) (hB : BoxAt W B bn bd) (oa : Ra.Ok an ad) (ob : Ra.Ok bn bd) (h : Ra.red (an * bn) (ad * bd) = some (p, q)) :
    Calls Tryz.prog 37 #[.pointer (some ⟨A, 0, none⟩), .pointer (some ⟨B, 0, none⟩)] W fun e W' => e = .returned (ratV p q) ∧ Below W.heap.size W W' := by
  have ka := fun w => check_yes an ad w oa
  have kb := fun w => check_yes bn bd w ob
  obtain ⟨a1, a2, a3, a4, -⟩ := oa
  obtain ⟨b1, b2, b3, b4, -⟩ := ob
  obtain ⟨p1, q1⟩ := Ra.prod_bd (a := an) (b := bn) (by omega) (by omega) (by omega) (by omega)
  have e1 : wrap64 (an * bn) = an * bn := IntWalk.wrap64_in _ ⟨by omega, by omega⟩
  obtain ⟨p3, q3⟩ := Ra.prod_bd (a := ad) (b := bd) (by omega) (by omega) (by omega) (by omega)
  have e3 : wrap64 (ad * bd) = ad * bd := IntWalk.wrap64_in _ ⟨by omega, by omega⟩
  have hr := fun w => reduce_yes (an * bn) (ad * bd) p q w (by omega) (by omega) (by omega) (by omega) h
  have KA := Lib.hid ka; have KB := Lib.hid kb; have HR := Lib.hid hr; have HA := Lib.hid hA; have HB := Lib.hid hB
  have ha0 := hA.2.1; have ha1 := hA.2.2; have hb0 := hB.2.1; have hb1 := hB.2.2
  have n1 : A ≠ W.heap.size := Nat.ne_of_lt hA.1
  have n2 : B ≠ W.heap.size := Nat.ne_of_lt hB.1
  clear ka kb hr hA hB h
  obtain ⟨y0, y1, y2⟩ := HA.out.below (below_new W (.cells #[.int .i64 0, .int .i64 0] 25))
  clear ha0 ha1 hb0 hb1 n1 n2
  go_enter Tryz.func37, Tryz.ntmps37
  go_wp2_with fail
  refine (KA.out _).mono ?_; rintro e w1 ⟨rfl, g1⟩
  have l1 := below_step (below_new W _) g1
  obtain ⟨z0, z1, z2⟩ := HB.out.below l1
  clear y0 y1 y2
  go_wp2_with fail
  refine (KB.out _).mono ?_; rintro e w2 ⟨rfl, g2⟩
  have l2 := below_step l1 g2
  clear z0 z1 z2
  obtain ⟨x0, x1, x2⟩ := HA.out.below l2
  obtain ⟨v0, v1, v2⟩ := HB.out.below l2
  go_wp2_with fail
  refine (HR.out _).mono ?_; rintro e w3 ⟨rfl, g3⟩
  have l3 := below_step l2 g3
  have r0 : BoxAt w3 W.heap.size 0 0 := ((((BoxAt.new W 0 0).below g1).below g2).below g3)
  have fr : ∀ o, w3.frozen? ⟨W.heap.size, o, none⟩ = false := fun o => by
    rw [g3.frozen (p := ⟨W.heap.size, o, none⟩) ((BoxAt.new W 0 0).below g1 |>.below g2).1, g2.frozen (p := ⟨W.heap.size, o, none⟩) ((BoxAt.new W 0 0).below g1).1, g1.frozen (p := ⟨W.heap.size, o, none⟩) (BoxAt.new W 0 0).1]
    simp [go_sem]
  obtain ⟨r1, r2, r3⟩ := r0
  clear x0 x1 x2 v0 v1 v2
  go_wp2_with fail
  refine bodyPost_ret (v := ratV p q) (by simp [results, Tryz.results37, go_sem, r2, r3]) rfl ⟨rfl, ?_⟩
  exact (l3.setCell (by simp) _).setCell (by simp) _

set_option maxRecDepth 100000 in
set_option maxHeartbeats 400000 in
theorem Mul1_no (A B : Nat) (an ad bn bd : Int) (W : World) (a : Addr) (hN : NoneAt a W) (hA : BoxAt W A an ad) (hB : BoxAt W B bn bd) (fa : Fits an ∧ Fits ad) (fb : Fits bn ∧ Fits bd) (h : Ra.Ok an ad → Ra.Ok bn bd → Ra.red (an * bn) (ad * bd) = none) :
    Calls Tryz.prog 37 #[.pointer (some ⟨A, 0, none⟩), .pointer (some ⟨B, 0, none⟩)] W fun e W' => e = raised a ∧ Below W.heap.size W W' := by
  have HA := Lib.hid hA; have HB := Lib.hid hB; have HN := Lib.hid hN
  have n1 : A ≠ W.heap.size := Nat.ne_of_lt hA.1
  clear hA hB hN
  obtain ⟨y0, y1, y2⟩ := HA.out.below (below_new W (.cells #[.int .i64 0, .int .i64 0] 25))
  clear n1
  by_cases oa : Ra.Ok an ad
  case neg =>
    have ka := fun w hN => check_no an ad w fa.1.1 fa.1.2 fa.2.1 fa.2.2 a hN oa
    have KA := Lib.hid ka; clear ka oa h fa fb
    go_enter Tryz.func37, Tryz.ntmps37
    go_wp2_with fail
    refine (KA.out _ (HN.out.below (below_new _ _))).mono ?_; rintro e w1 ⟨rfl, g1⟩
    have l1 := below_step (below_new W _) g1
    go_wp2_with fail
    exact ⟨rfl, rfl, l1⟩
  have ka := fun w => check_yes an ad w oa
  have KA := Lib.hid ka
  by_cases ob : Ra.Ok bn bd
  case neg =>
    have kb := fun w hN => check_no bn bd w fb.1.1 fb.1.2 fb.2.1 fb.2.2 a hN ob
    have KB := Lib.hid kb; clear ka kb oa ob h fa fb
    go_enter Tryz.func37, Tryz.ntmps37
    go_wp2_with fail
    refine (KA.out _).mono ?_; rintro e w1 ⟨rfl, g1⟩
    have l1 := below_step (below_new W _) g1
    obtain ⟨z0, z1, z2⟩ := HB.out.below l1
    clear y0 y1 y2
    go_wp2_with fail
    refine (KB.out _ (HN.out.below l1)).mono ?_; rintro e w2 ⟨rfl, g2⟩
    have l2 := below_step l1 g2
    clear z0 z1 z2
    go_wp2_with fail
    exact ⟨rfl, rfl, l2⟩
  have h' := h oa ob
  have kb := fun w => check_yes bn bd w ob
  obtain ⟨a1, a2, a3, a4, -⟩ := oa
  obtain ⟨b1, b2, b3, b4, -⟩ := ob
  obtain ⟨p1, q1⟩ := Ra.prod_bd (a := an) (b := bn) (by omega) (by omega) (by omega) (by omega)
  have e1 : wrap64 (an * bn) = an * bn := IntWalk.wrap64_in _ ⟨by omega, by omega⟩
  obtain ⟨p3, q3⟩ := Ra.prod_bd (a := ad) (b := bd) (by omega) (by omega) (by omega) (by omega)
  have e3 : wrap64 (ad * bd) = ad * bd := IntWalk.wrap64_in _ ⟨by omega, by omega⟩
  have hr := fun w hN => reduce_no (an * bn) (ad * bd) w (by omega) (by omega) (by omega) (by omega) a hN h'
  have KB := Lib.hid kb; have HR := Lib.hid hr
  clear ka kb hr h h' fa fb
  go_enter Tryz.func37, Tryz.ntmps37
  go_wp2_with fail
  refine (KA.out _).mono ?_; rintro e w1 ⟨rfl, g1⟩
  have l1 := below_step (below_new W _) g1
  obtain ⟨z0, z1, z2⟩ := HB.out.below l1
  clear y0 y1 y2
  go_wp2_with fail
  refine (KB.out _).mono ?_; rintro e w2 ⟨rfl, g2⟩
  have l2 := below_step l1 g2
  clear z0 z1 z2
  obtain ⟨x0, x1, x2⟩ := HA.out.below l2
  obtain ⟨v0, v1, v2⟩ := HB.out.below l2
  go_wp2_with fail
  refine (HR.out _ (HN.out.below l2)).mono ?_; rintro e w3 ⟨rfl, g3⟩
  have l3 := below_step l2 g3
  clear x0 x1 x2 v0 v1 v2
  go_wp2_with fail
  exact ⟨rfl, rfl, l3⟩

/-- What Mul answers. -/
def mulR (an ad bn bd : Int) : Option (Int × Int) := if Ra.Ok an ad ∧ Ra.Ok bn bd then Ra.red (an * bn) (ad * bd) else none
set_option maxRecDepth 100000 in
set_option maxHeartbeats 400000 in
theorem Mul_any (an ad bn bd : Int) (w : World) (a : Addr) (hN : NoneAt a w) (fa : Fits an ∧ Fits ad) (fb : Fits bn ∧ Fits bd) :
    Calls Tryz.prog 12 #[ratV an ad, ratV bn bd] w fun e w' => e = .returned (ratRes (mulR an ad bn bd)) ∧ Below w.heap.size w w' := by
  have eK := enters_of Tryz.func37 (by kernel_rfl) rfl
  have hmf : ∀ (fn : Fn) (first cap : Array Value) (w : World), (Instr.makeFunc fn first cap).run Tryz.prog w = .ok (.func fn first cap) w := fun _ _ _ _ => rfl
  have ba := BoxAt.new w an ad
  have bb := BoxAt.new (w.alloc (.cells #[.int .i64 an, .int .i64 ad] 25)) bn bd
  have l0 : Below w.heap.size w ((w.alloc (.cells #[.int .i64 an, .int .i64 ad] 25)).alloc (.cells #[.int .i64 bn, .int .i64 bd] 25)) := (below_new w _).alloc (by simp) _
  have ba2 := ba.below (below_new _ (.cells #[.int .i64 bn, .int .i64 bd] 25))
  rw [World.size_alloc] at bb
  cases h : mulR an ad bn bd with
  | some x =>
    obtain ⟨p, q⟩ := x
    show Calls _ _ _ _ fun e w' => e = .returned (.tuple #[ratV p q, .int .i64 0]) ∧ Below w.heap.size w w'
    have hc : ∀ W, Below (((w.alloc (.cells #[.int .i64 an, .int .i64 ad] 25)).alloc (.cells #[.int .i64 bn, .int .i64 bd] 25)).alloc (.cells #[.int .i64 0, .int .i64 0] 25)).heap.size (((w.alloc (.cells #[.int .i64 an, .int .i64 ad] 25)).alloc (.cells #[.int .i64 bn, .int .i64 bd] 25)).alloc (.cells #[.int .i64 0, .int .i64 0] 25)) W →
        Calls Tryz.prog 37 #[.pointer (some ⟨w.heap.size, 0, none⟩), .pointer (some ⟨w.heap.size + 1, 0, none⟩)] W fun e W' => e = .returned (ratV p q) ∧ Below W.heap.size W W' := fun W hW => by
      unfold mulR at h
      split at h
      · rename_i ho
        exact Mul1_yes _ _ an ad bn bd p q W ((ba2.below (below_new _ _)).below hW) ((bb.below (below_new _ _)).below hW) ho.1 ho.2 h
      · cases h
    have HC := Lib.hid hc
    clear hc h fa fb ba bb ba2 hN
    have HL := Lib.hid l0; clear l0
    go_enter Tryz.func12, Tryz.ntmps12
    go_wp2_with fail
    refine (attempt_yes 37 _ p q _ (eK _) HC.out).mono ?_; rintro e w1 ⟨rfl, g1⟩
    have l1 := below_step (below_step HL.out (below_new _ _)) g1
    have r0 := (BoxAt.new _ 0 0).below g1
    have fr : ∀ o, w1.frozen? ⟨w.heap.size + 1 + 1, o, none⟩ = false := fun o => by
      rw [g1.frozen (p := ⟨w.heap.size + 1 + 1, o, none⟩) (by simp)]; simp [go_sem]
    obtain ⟨r1, r2, r3⟩ := r0
    simp only [World.size_alloc] at r1 r2 r3
    go_wp2_with fail
    refine bodyPost_ret (v := .tuple #[ratV p q, .int .i64 0]) (by simp [results, Tryz.results12, go_sem, r2, r3]) rfl ⟨rfl, ?_⟩
    exact (l1.setCell (by simp; omega) _).setCell (by simp; omega) _
  | none =>
    show Calls _ _ _ _ fun e w' => e = .returned (.tuple #[ratV 0 0, .int .i64 30]) ∧ Below w.heap.size w w'
    have hn2 := (hN.below l0).below (below_new _ (.cells #[.int .i64 0, .int .i64 0] 25))
    have hc : ∀ W, Below (((w.alloc (.cells #[.int .i64 an, .int .i64 ad] 25)).alloc (.cells #[.int .i64 bn, .int .i64 bd] 25)).alloc (.cells #[.int .i64 0, .int .i64 0] 25)).heap.size (((w.alloc (.cells #[.int .i64 an, .int .i64 ad] 25)).alloc (.cells #[.int .i64 bn, .int .i64 bd] 25)).alloc (.cells #[.int .i64 0, .int .i64 0] 25)) W →
        Calls Tryz.prog 37 #[.pointer (some ⟨w.heap.size, 0, none⟩), .pointer (some ⟨w.heap.size + 1, 0, none⟩)] W fun e W' => e = raised a ∧ Below W.heap.size W W' := fun W hW => by
      refine Mul1_no _ _ an ad bn bd W a (hn2.below hW) ((ba2.below (below_new _ _)).below hW) ((bb.below (below_new _ _)).below hW) fa fb fun oa ob => ?_
      unfold mulR at h
      rw [if_pos ⟨oa, ob⟩] at h; exact h
    have HC := Lib.hid hc
    clear hc h fa fb ba bb ba2 hN
    have HL := Lib.hid l0; clear l0
    have HN := Lib.hid hn2; clear hn2
    go_enter Tryz.func12, Tryz.ntmps12
    go_wp2_with fail
    refine (attempt_no 37 _ a _ HN.out (eK _) HC.out).mono ?_; rintro e w1 ⟨rfl, g1⟩
    have l1 := below_step (below_step HL.out (below_new _ _)) g1
    have r0 := (BoxAt.new _ 0 0).below g1
    have fr : ∀ o, w1.frozen? ⟨w.heap.size + 1 + 1, o, none⟩ = false := fun o => by
      rw [g1.frozen (p := ⟨w.heap.size + 1 + 1, o, none⟩) (by simp)]; simp [go_sem]
    obtain ⟨r1, r2, r3⟩ := r0
    simp only [World.size_alloc] at r1 r2 r3
    go_wp2_with fail
    refine bodyPost_ret (v := .tuple #[ratV 0 0, .int .i64 30]) (by simp [results, Tryz.results12, go_sem, r2, r3]) rfl ⟨rfl, ?_⟩
    exact (l1.setCell (by simp; omega) _).setCell (by simp; omega) _

set_option maxRecDepth 100000 in
set_option maxHeartbeats 400000 in
theorem Div1_yes (A B : Nat) (an ad bn bd p q : Int) (W : World) (hA : BoxAt W A an ad) (hB : BoxAt W B bn bd) (oa : Ra.Ok an ad) (ob : Ra.Ok bn bd) (h : Ra.red (an * bd) (ad * bn) = some (p, q)) :
    Calls Tryz.prog 38 #[.pointer (some ⟨A, 0, none⟩), .pointer (some ⟨B, 0, none⟩)] W fun e W' => e = .returned (ratV p q) ∧ Below W.heap.size W W' := by
  have ka := fun w => check_yes an ad w oa
  have kb := fun w => check_yes bn bd w ob
  obtain ⟨a1, a2, a3, a4, -⟩ := oa
  obtain ⟨b1, b2, b3, b4, -⟩ := ob
  obtain ⟨p1, q1⟩ := Ra.prod_bd (a := an) (b := bd) (by omega) (by omega) (by omega) (by omega)
  have e1 : wrap64 (an * bd) = an * bd := IntWalk.wrap64_in _ ⟨by omega, by omega⟩
  obtain ⟨p3, q3⟩ := Ra.prod_bd (a := ad) (b := bn) (by omega) (by omega) (by omega) (by omega)
  have e3 : wrap64 (ad * bn) = ad * bn := IntWalk.wrap64_in _ ⟨by omega, by omega⟩
  have hr := fun w => reduce_yes (an * bd) (ad * bn) p q w (by omega) (by omega) (by omega) (by omega) h
  have KA := Lib.hid ka; have KB := Lib.hid kb; have HR := Lib.hid hr; have HA := Lib.hid hA; have HB := Lib.hid hB
  have ha0 := hA.2.1; have ha1 := hA.2.2; have hb0 := hB.2.1; have hb1 := hB.2.2
  have n1 : A ≠ W.heap.size := Nat.ne_of_lt hA.1
  have n2 : B ≠ W.heap.size := Nat.ne_of_lt hB.1
  clear ka kb hr hA hB h
  obtain ⟨y0, y1, y2⟩ := HA.out.below (below_new W (.cells #[.int .i64 0, .int .i64 0] 25))
  clear ha0 ha1 hb0 hb1 n1 n2
  go_enter Tryz.func38, Tryz.ntmps38
  go_wp2_with fail
  refine (KA.out _).mono ?_; rintro e w1 ⟨rfl, g1⟩
  have l1 := below_step (below_new W _) g1
  obtain ⟨z0, z1, z2⟩ := HB.out.below l1
  clear y0 y1 y2
  go_wp2_with fail
  refine (KB.out _).mono ?_; rintro e w2 ⟨rfl, g2⟩
  have l2 := below_step l1 g2
  clear z0 z1 z2
  obtain ⟨x0, x1, x2⟩ := HA.out.below l2
  obtain ⟨v0, v1, v2⟩ := HB.out.below l2
  go_wp2_with fail
  refine (HR.out _).mono ?_; rintro e w3 ⟨rfl, g3⟩
  have l3 := below_step l2 g3
  have r0 : BoxAt w3 W.heap.size 0 0 := ((((BoxAt.new W 0 0).below g1).below g2).below g3)
  have fr : ∀ o, w3.frozen? ⟨W.heap.size, o, none⟩ = false := fun o => by
    rw [g3.frozen (p := ⟨W.heap.size, o, none⟩) ((BoxAt.new W 0 0).below g1 |>.below g2).1, g2.frozen (p := ⟨W.heap.size, o, none⟩) ((BoxAt.new W 0 0).below g1).1, g1.frozen (p := ⟨W.heap.size, o, none⟩) (BoxAt.new W 0 0).1]
    simp [go_sem]
  obtain ⟨r1, r2, r3⟩ := r0
  clear x0 x1 x2 v0 v1 v2
  go_wp2_with fail
  refine bodyPost_ret (v := ratV p q) (by simp [results, Tryz.results38, go_sem, r2, r3]) rfl ⟨rfl, ?_⟩
  exact (l3.setCell (by simp) _).setCell (by simp) _

set_option maxRecDepth 100000 in
set_option maxHeartbeats 400000 in
theorem Div1_no (A B : Nat) (an ad bn bd : Int) (W : World) (a : Addr) (hN : NoneAt a W) (hA : BoxAt W A an ad) (hB : BoxAt W B bn bd) (fa : Fits an ∧ Fits ad) (fb : Fits bn ∧ Fits bd) (h : Ra.Ok an ad → Ra.Ok bn bd → Ra.red (an * bd) (ad * bn) = none) :
    Calls Tryz.prog 38 #[.pointer (some ⟨A, 0, none⟩), .pointer (some ⟨B, 0, none⟩)] W fun e W' => e = raised a ∧ Below W.heap.size W W' := by
  have HA := Lib.hid hA; have HB := Lib.hid hB; have HN := Lib.hid hN
  have n1 : A ≠ W.heap.size := Nat.ne_of_lt hA.1
  clear hA hB hN
  obtain ⟨y0, y1, y2⟩ := HA.out.below (below_new W (.cells #[.int .i64 0, .int .i64 0] 25))
  clear n1
  by_cases oa : Ra.Ok an ad
  case neg =>
    have ka := fun w hN => check_no an ad w fa.1.1 fa.1.2 fa.2.1 fa.2.2 a hN oa
    have KA := Lib.hid ka; clear ka oa h fa fb
    go_enter Tryz.func38, Tryz.ntmps38
    go_wp2_with fail
    refine (KA.out _ (HN.out.below (below_new _ _))).mono ?_; rintro e w1 ⟨rfl, g1⟩
    have l1 := below_step (below_new W _) g1
    go_wp2_with fail
    exact ⟨rfl, rfl, l1⟩
  have ka := fun w => check_yes an ad w oa
  have KA := Lib.hid ka
  by_cases ob : Ra.Ok bn bd
  case neg =>
    have kb := fun w hN => check_no bn bd w fb.1.1 fb.1.2 fb.2.1 fb.2.2 a hN ob
    have KB := Lib.hid kb; clear ka kb oa ob h fa fb
    go_enter Tryz.func38, Tryz.ntmps38
    go_wp2_with fail
    refine (KA.out _).mono ?_; rintro e w1 ⟨rfl, g1⟩
    have l1 := below_step (below_new W _) g1
    obtain ⟨z0, z1, z2⟩ := HB.out.below l1
    clear y0 y1 y2
    go_wp2_with fail
    refine (KB.out _ (HN.out.below l1)).mono ?_; rintro e w2 ⟨rfl, g2⟩
    have l2 := below_step l1 g2
    clear z0 z1 z2
    go_wp2_with fail
    exact ⟨rfl, rfl, l2⟩
  have h' := h oa ob
  have kb := fun w => check_yes bn bd w ob
  obtain ⟨a1, a2, a3, a4, -⟩ := oa
  obtain ⟨b1, b2, b3, b4, -⟩ := ob
  obtain ⟨p1, q1⟩ := Ra.prod_bd (a := an) (b := bd) (by omega) (by omega) (by omega) (by omega)
  have e1 : wrap64 (an * bd) = an * bd := IntWalk.wrap64_in _ ⟨by omega, by omega⟩
  obtain ⟨p3, q3⟩ := Ra.prod_bd (a := ad) (b := bn) (by omega) (by omega) (by omega) (by omega)
  have e3 : wrap64 (ad * bn) = ad * bn := IntWalk.wrap64_in _ ⟨by omega, by omega⟩
  have hr := fun w hN => reduce_no (an * bd) (ad * bn) w (by omega) (by omega) (by omega) (by omega) a hN h'
  have KB := Lib.hid kb; have HR := Lib.hid hr
  clear ka kb hr h h' fa fb
  go_enter Tryz.func38, Tryz.ntmps38
  go_wp2_with fail
  refine (KA.out _).mono ?_; rintro e w1 ⟨rfl, g1⟩
  have l1 := below_step (below_new W _) g1
  obtain ⟨z0, z1, z2⟩ := HB.out.below l1
  clear y0 y1 y2
  go_wp2_with fail
  refine (KB.out _).mono ?_; rintro e w2 ⟨rfl, g2⟩
  have l2 := below_step l1 g2
  clear z0 z1 z2
  obtain ⟨x0, x1, x2⟩ := HA.out.below l2
  obtain ⟨v0, v1, v2⟩ := HB.out.below l2
  go_wp2_with fail
  refine (HR.out _ (HN.out.below l2)).mono ?_; rintro e w3 ⟨rfl, g3⟩
  have l3 := below_step l2 g3
  clear x0 x1 x2 v0 v1 v2
  go_wp2_with fail
  exact ⟨rfl, rfl, l3⟩

/-- What Div answers. -/
def divR (an ad bn bd : Int) : Option (Int × Int) := if Ra.Ok an ad ∧ Ra.Ok bn bd then Ra.red (an * bd) (ad * bn) else none
set_option maxRecDepth 100000 in
set_option maxHeartbeats 400000 in
theorem Div_any (an ad bn bd : Int) (w : World) (a : Addr) (hN : NoneAt a w) (fa : Fits an ∧ Fits ad) (fb : Fits bn ∧ Fits bd) :
    Calls Tryz.prog 14 #[ratV an ad, ratV bn bd] w fun e w' => e = .returned (ratRes (divR an ad bn bd)) ∧ Below w.heap.size w w' := by
  have eK := enters_of Tryz.func38 (by kernel_rfl) rfl
  have hmf : ∀ (fn : Fn) (first cap : Array Value) (w : World), (Instr.makeFunc fn first cap).run Tryz.prog w = .ok (.func fn first cap) w := fun _ _ _ _ => rfl
  have ba := BoxAt.new w an ad
  have bb := BoxAt.new (w.alloc (.cells #[.int .i64 an, .int .i64 ad] 25)) bn bd
  have l0 : Below w.heap.size w ((w.alloc (.cells #[.int .i64 an, .int .i64 ad] 25)).alloc (.cells #[.int .i64 bn, .int .i64 bd] 25)) := (below_new w _).alloc (by simp) _
  have ba2 := ba.below (below_new _ (.cells #[.int .i64 bn, .int .i64 bd] 25))
  rw [World.size_alloc] at bb
  cases h : divR an ad bn bd with
  | some x =>
    obtain ⟨p, q⟩ := x
    show Calls _ _ _ _ fun e w' => e = .returned (.tuple #[ratV p q, .int .i64 0]) ∧ Below w.heap.size w w'
    have hc : ∀ W, Below (((w.alloc (.cells #[.int .i64 an, .int .i64 ad] 25)).alloc (.cells #[.int .i64 bn, .int .i64 bd] 25)).alloc (.cells #[.int .i64 0, .int .i64 0] 25)).heap.size (((w.alloc (.cells #[.int .i64 an, .int .i64 ad] 25)).alloc (.cells #[.int .i64 bn, .int .i64 bd] 25)).alloc (.cells #[.int .i64 0, .int .i64 0] 25)) W →
        Calls Tryz.prog 38 #[.pointer (some ⟨w.heap.size, 0, none⟩), .pointer (some ⟨w.heap.size + 1, 0, none⟩)] W fun e W' => e = .returned (ratV p q) ∧ Below W.heap.size W W' := fun W hW => by
      unfold divR at h
      split at h
      · rename_i ho
        exact Div1_yes _ _ an ad bn bd p q W ((ba2.below (below_new _ _)).below hW) ((bb.below (below_new _ _)).below hW) ho.1 ho.2 h
      · cases h
    have HC := Lib.hid hc
    clear hc h fa fb ba bb ba2 hN
    have HL := Lib.hid l0; clear l0
    go_enter Tryz.func14, Tryz.ntmps14
    go_wp2_with fail
    refine (attempt_yes 38 _ p q _ (eK _) HC.out).mono ?_; rintro e w1 ⟨rfl, g1⟩
    have l1 := below_step (below_step HL.out (below_new _ _)) g1
    have r0 := (BoxAt.new _ 0 0).below g1
    have fr : ∀ o, w1.frozen? ⟨w.heap.size + 1 + 1, o, none⟩ = false := fun o => by
      rw [g1.frozen (p := ⟨w.heap.size + 1 + 1, o, none⟩) (by simp)]; simp [go_sem]
    obtain ⟨r1, r2, r3⟩ := r0
    simp only [World.size_alloc] at r1 r2 r3
    go_wp2_with fail
    refine bodyPost_ret (v := .tuple #[ratV p q, .int .i64 0]) (by simp [results, Tryz.results14, go_sem, r2, r3]) rfl ⟨rfl, ?_⟩
    exact (l1.setCell (by simp; omega) _).setCell (by simp; omega) _
  | none =>
    show Calls _ _ _ _ fun e w' => e = .returned (.tuple #[ratV 0 0, .int .i64 30]) ∧ Below w.heap.size w w'
    have hn2 := (hN.below l0).below (below_new _ (.cells #[.int .i64 0, .int .i64 0] 25))
    have hc : ∀ W, Below (((w.alloc (.cells #[.int .i64 an, .int .i64 ad] 25)).alloc (.cells #[.int .i64 bn, .int .i64 bd] 25)).alloc (.cells #[.int .i64 0, .int .i64 0] 25)).heap.size (((w.alloc (.cells #[.int .i64 an, .int .i64 ad] 25)).alloc (.cells #[.int .i64 bn, .int .i64 bd] 25)).alloc (.cells #[.int .i64 0, .int .i64 0] 25)) W →
        Calls Tryz.prog 38 #[.pointer (some ⟨w.heap.size, 0, none⟩), .pointer (some ⟨w.heap.size + 1, 0, none⟩)] W fun e W' => e = raised a ∧ Below W.heap.size W W' := fun W hW => by
      refine Div1_no _ _ an ad bn bd W a (hn2.below hW) ((ba2.below (below_new _ _)).below hW) ((bb.below (below_new _ _)).below hW) fa fb fun oa ob => ?_
      unfold divR at h
      rw [if_pos ⟨oa, ob⟩] at h; exact h
    have HC := Lib.hid hc
    clear hc h fa fb ba bb ba2 hN
    have HL := Lib.hid l0; clear l0
    have HN := Lib.hid hn2; clear hn2
    go_enter Tryz.func14, Tryz.ntmps14
    go_wp2_with fail
    refine (attempt_no 38 _ a _ HN.out (eK _) HC.out).mono ?_; rintro e w1 ⟨rfl, g1⟩
    have l1 := below_step (below_step HL.out (below_new _ _)) g1
    have r0 := (BoxAt.new _ 0 0).below g1
    have fr : ∀ o, w1.frozen? ⟨w.heap.size + 1 + 1, o, none⟩ = false := fun o => by
      rw [g1.frozen (p := ⟨w.heap.size + 1 + 1, o, none⟩) (by simp)]; simp [go_sem]
    obtain ⟨r1, r2, r3⟩ := r0
    simp only [World.size_alloc] at r1 r2 r3
    go_wp2_with fail
    refine bodyPost_ret (v := .tuple #[ratV 0 0, .int .i64 30]) (by simp [results, Tryz.results14, go_sem, r2, r3]) rfl ⟨rfl, ?_⟩
    exact (l1.setCell (by simp; omega) _).setCell (by simp; omega) _
end Go.Proofs.YtkkhmgcjaehnkaaGreatDoor
