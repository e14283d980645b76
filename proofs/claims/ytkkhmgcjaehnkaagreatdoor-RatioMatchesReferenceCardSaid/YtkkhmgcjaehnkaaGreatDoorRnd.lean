/-
  Round and Clamp, for all arguments.
-/
import Derived.Test.YtkkhmgcjaehnkaaGreatDoorMake
import Derived.Deep.RegionWith
import Derived.Deep.RegionHeld3
import Derived.RegionTactic
import Derived.StillTailTactics
namespace Go.Proofs.YtkkhmgcjaehnkaaGreatDoor
open Go.RowKit Go.Shelf

theorem flo_abs {n d : Int} : -(n.natAbs : Int) - 1 ≤ Ra.flo n d ∧ Ra.flo n d ≤ (n.natAbs : Int) := by
  have hq : (n.tdiv d).natAbs ≤ n.natAbs := by rw [Int.natAbs_tdiv]; exact Nat.div_le_self _ _
  unfold Ra.flo; split <;> omega

/-- What stays while Round's closure runs. -/
structure RoundAt (W0 : World) (A B : Nat) (n q d : Int) (w' : World) : Prop where
  ltA : A < W0.heap.size
  ltB : B < W0.heap.size
  c0 : w'.cell? ⟨A, 0, none⟩ = some (.int .i64 n)
  c1 : w'.cell? ⟨A, 1, none⟩ = some (.int .i64 q)
  ci : w'.cell? ⟨B, 0, none⟩ = some (.int .i64 d)
  r0 : ∃ u, w'.cell? ⟨W0.heap.size, 0, none⟩ = some u
  r1 : ∃ u, w'.cell? ⟨W0.heap.size, 1, none⟩ = some u
  fr : ∀ o, w'.frozen? ⟨W0.heap.size, o, none⟩ = false
  rl : W0.heap.size < w'.heap.size
  bel : Below W0.heap.size W0 w'
theorem RoundAt.step {W0 : World} {A B : Nat} {n q d : Int} {w1 w2 : World} (h : RoundAt W0 A B n q d w1) (hb : Below w1.heap.size w1 w2) : RoundAt W0 A B n q d w2 :=
  ⟨h.ltA, h.ltB, (hb.cell (p := ⟨A, 0, none⟩) (Nat.lt_of_lt_of_le h.ltA h.bel.size)).trans h.c0, (hb.cell (p := ⟨A, 1, none⟩) (Nat.lt_of_lt_of_le h.ltA h.bel.size)).trans h.c1, (hb.cell (p := ⟨B, 0, none⟩) (Nat.lt_of_lt_of_le h.ltB h.bel.size)).trans h.ci,
    h.r0.imp fun _ e => (hb.cell (p := ⟨W0.heap.size, 0, none⟩) h.rl).trans e, h.r1.imp fun _ e => (hb.cell (p := ⟨W0.heap.size, 1, none⟩) h.rl).trans e,
    fun o => (hb.frozen (p := ⟨W0.heap.size, o, none⟩) h.rl).trans (h.fr o), Nat.lt_of_lt_of_le h.rl hb.size, below_step h.bel hb⟩
theorem RoundAt.new {W : World} {A B : Nat} {n q d : Int} (hA : BoxAt W A n q) (hB : IntAt W B d) : RoundAt W A B n q d (W.alloc (.cells #[.int .i64 0, .int .i64 0] 25)) :=
  ⟨hA.1, hB.1, (hA.below (below_new _ _)).2.1, (hA.below (below_new _ _)).2.2, (hB.below (below_new _ _)).2, ⟨_, (BoxAt.new W 0 0).2.1⟩, ⟨_, (BoxAt.new W 0 0).2.2⟩, fun o => by simp [go_sem], by simp, below_new _ _⟩
theorem RoundAt.set {W0 : World} {A B : Nat} {n q d : Int} {w1 : World} (h : RoundAt W0 A B n q d w1) (x y : Value) : RoundAt W0 A B n q d ((w1.setCell ⟨W0.heap.size, 0, none⟩ x).setCell ⟨W0.heap.size, 1, none⟩ y) := by
  have na : ∀ o p, (⟨W0.heap.size, p, none⟩ : Addr) ≠ ⟨A, o, none⟩ := fun o p e => by injection e with e; exact Nat.lt_irrefl _ (e ▸ h.ltA)
  have nb : ∀ o p, (⟨W0.heap.size, p, none⟩ : Addr) ≠ ⟨B, o, none⟩ := fun o p e => by injection e with e; exact Nat.lt_irrefl _ (e ▸ h.ltB)
  obtain ⟨u0, e0⟩ := h.r0
  obtain ⟨u1, e1⟩ := h.r1
  refine ⟨h.ltA, h.ltB, ?_, ?_, ?_, ⟨x, ?_⟩, ⟨y, ?_⟩, fun o => ?_, by simpa using h.rl, (h.bel.setCell (by simp) _).setCell (by simp) _⟩
  · rw [World.cell?_setCell_other _ _ _ _ (na 0 1), World.cell?_setCell_other _ _ _ _ (na 0 0)]; exact h.c0
  · rw [World.cell?_setCell_other _ _ _ _ (na 1 1), World.cell?_setCell_other _ _ _ _ (na 1 0)]; exact h.c1
  · rw [World.cell?_setCell_other _ _ _ _ (nb 0 1), World.cell?_setCell_other _ _ _ _ (nb 0 0)]; exact h.ci
  · simp [go_sem, e0]
  · simp [go_sem, e1]
  · simp [go_sem, h.fr o]

set_option maxRecDepth 100000 in
set_option maxHeartbeats 1000000 in
theorem Round1_yes (A B : Nat) (n q d x y : Int) (W : World) (hA : BoxAt W A n q) (hB : IntAt W B d) (ho : Ra.Ok n q) (hd0 : 1 ≤ d) (hd1 : d ≤ 1000000000) (h : Ra.red (Ra.rnd n q d) d = some (x, y)) :
    Calls Tryz.prog 39 #[.pointer (some ⟨A, 0, none⟩), .pointer (some ⟨B, 0, none⟩)] W fun e W' => e = .returned (ratV x y) ∧ Below W.heap.size W W' := by
  have ka := fun w => check_yes n q w ho
  obtain ⟨a1, a2, a3, a4, -⟩ := ho
  obtain ⟨p1, q1⟩ := Ra.prod_bd (a := n) (b := d) (by omega) (by omega) (by omega) (by omega)
  have p2 : 2 * n * d = 2 * (n * d) := Int.mul_assoc _ _ _
  have e1 : IntKind.i64.wrap (2 * n) = 2 * n := IntWalk.i64_in _ (by omega)
  have e2 : IntKind.i64.wrap (2 * n * d) = 2 * n * d := IntWalk.i64_in _ (by omega)
  have e3 : IntKind.i64.wrap (2 * n * d + q) = 2 * n * d + q := IntWalk.i64_in _ (by omega)
  have e4 : IntKind.i64.wrap (2 * q) = 2 * q := IntWalk.i64_in _ (by omega)
  have hq : ∀ w, Calls Tryz.prog 40 #[.int .i64 (2 * n * d + q), .int .i64 (2 * q)] w fun e w' => e = .returned (.int .i64 (Ra.rnd n q d)) ∧ w = w' := fun w => floorQ_any _ _ w (by omega) (by omega) (by omega) (by omega)
  obtain ⟨r1, r2⟩ := flo_abs (n := 2 * n * d + q) (d := 2 * q)
  have hr : ∀ w, Calls Tryz.prog 30 #[.int .i64 (Ra.rnd n q d), .int .i64 d] w fun e w' => e = .returned (ratV x y) ∧ Below w.heap.size w w' := fun w => by
    have r1' : _ ≤ Ra.rnd n q d := r1
    have r2' : Ra.rnd n q d ≤ _ := r2
    exact reduce_yes _ _ x y w (by omega) (by omega) (by omega) (by omega) h
  generalize Ra.rnd n q d = K at hq hr
  have KA := Lib.hid ka; have HQ := Lib.hid hq; have HR := Lib.hid hr
  have R0 := Lib.hid (RoundAt.new hA hB)
  have HS : Hid (∀ w1 w2, (w1.cell? ⟨A, 0, none⟩ = some (.int .i64 n) ∧ w1.cell? ⟨A, 1, none⟩ = some (.int .i64 q) ∧ w1.cell? ⟨B, 0, none⟩ = some (.int .i64 d) ∧ RoundAt W A B n q d w1) → Below w1.heap.size w1 w2 →
      (w2.cell? ⟨A, 0, none⟩ = some (.int .i64 n) ∧ w2.cell? ⟨A, 1, none⟩ = some (.int .i64 q) ∧ w2.cell? ⟨B, 0, none⟩ = some (.int .i64 d) ∧ RoundAt W A B n q d w2)) :=
    Lib.hid fun w1 w2 ⟨_, _, _, hh⟩ hb => ⟨(hh.step hb).c0, (hh.step hb).c1, (hh.step hb).ci, hh.step hb⟩
  have HT : Hid (∀ w1, RoundAt W A B n q d w1 → ∀ w2, w2 = ((w1.setCell ⟨W.heap.size, 0, none⟩ (.int .i64 x)).setCell ⟨W.heap.size, 1, none⟩ (.int .i64 y)) →
      (w2.cell? ⟨A, 0, none⟩ = some (.int .i64 n) ∧ w2.cell? ⟨A, 1, none⟩ = some (.int .i64 q) ∧ w2.cell? ⟨B, 0, none⟩ = some (.int .i64 d) ∧ RoundAt W A B n q d w2)) :=
    Lib.hid fun w1 hh w2 e => by subst e; exact ⟨(hh.set _ _).c0, (hh.set _ _).c1, (hh.set _ _).ci, hh.set _ _⟩
  clear ka hq hr r1 r2 p1 q1 p2 h hA hB
  have E1 := Lib.hid e1; have E2 := Lib.hid e2; have E3 := Lib.hid e3; have E4 := Lib.hid e4
  have x0 := R0.out.c0; have x1 := R0.out.c1
  clear e1 e2 e3 e4
  go_enter Tryz.func39, Tryz.ntmps39
  go_wp2_with fail
  clear x0 x1
  refine (KA.out _).mono ?_; rintro e w1 ⟨rfl, g1⟩
  have RA1 := R0.out.step g1
  have z0 := RA1.ci
  go_wp2_with fail
  have x0 := RA1.c0; have x1 := RA1.c1
  have e1 := E1.out; have e2 := E2.out; have e3 := E3.out; have e4 := E4.out
  have h0 : w1.cell? ⟨A, 0, none⟩ = some (.int .i64 n) ∧ w1.cell? ⟨A, 1, none⟩ = some (.int .i64 q) ∧ w1.cell? ⟨B, 0, none⟩ = some (.int .i64 d) ∧ RoundAt W A B n q d w1 := ⟨x0, x1, z0, RA1⟩
  go_region_held3 (fun w' => w'.cell? ⟨A, 0, none⟩ = some (.int .i64 n) ∧ w'.cell? ⟨A, 1, none⟩ = some (.int .i64 q) ∧ w'.cell? ⟨B, 0, none⟩ = some (.int .i64 d) ∧ RoundAt W A B n q d w') (first | exact h0 | exact HS.out _ _ h0 (Below.refl _ _).drew | exact HT.out _ R4 _ rfl | exact HS.out _ _ (by assumption) hb4) (first
    | (go_at_call 40; ((with_reducible refine (HQ.out _).mono ?_); rintro e w3 ⟨rfl, rfl⟩))
    | (go_at_call 30; ((with_reducible refine (HR.out _).mono ?_); rintro e w4 ⟨rfl, hb4⟩; have R4 := (HS.out _ _ (by assumption) hb4).2.2.2; obtain ⟨u0, r2⟩ := R4.r0; obtain ⟨u1, r3⟩ := R4.r1; have f0 := R4.fr 0; have f1 := R4.fr 1)))
  go_wp2_with fail
  refine bodyPost_ret (v := ratV x y) (by simp [results, Tryz.results39, go_sem, r2, r3]) rfl ⟨rfl, (R4.set _ _).bel⟩

set_option maxRecDepth 100000 in
set_option maxHeartbeats 1000000 in
theorem Round1_no (A B : Nat) (n q d : Int) (W : World) (a : Addr) (hN : NoneAt a W) (hA : BoxAt W A n q) (hB : IntAt W B d) (fa : Fits n ∧ Fits q) (h : Ra.Ok n q → 1 ≤ d → d ≤ 1000000000 → Ra.red (Ra.rnd n q d) d = none) :
    Calls Tryz.prog 39 #[.pointer (some ⟨A, 0, none⟩), .pointer (some ⟨B, 0, none⟩)] W fun e W' => e = raised a ∧ Below W.heap.size W W' := by
  have HN := Lib.hid hN
  have R0 := Lib.hid (RoundAt.new hA hB)
  clear hN hA hB
  have x0 := R0.out.c0; have x1 := R0.out.c1
  by_cases ho : Ra.Ok n q
  case neg =>
    have ka := fun w hN => check_no n q w fa.1.1 fa.1.2 fa.2.1 fa.2.2 a hN ho
    have KA := Lib.hid ka; clear ka ho h fa
    go_enter Tryz.func39, Tryz.ntmps39
    go_wp2_with fail
    clear x0 x1
    refine (KA.out _ (HN.out.below (below_new _ _))).mono ?_; rintro e w1 ⟨rfl, g1⟩
    have l1 := below_step (below_new W _) g1
    go_wp2_with fail
    exact ⟨rfl, rfl, l1⟩
  have ka := fun w => check_yes n q w ho
  have KA := Lib.hid ka; clear ka
  by_cases hd0 : 1 ≤ d
  case neg =>
    have hd : d < 1 := by omega
    clear h ho fa hd0
    go_enter Tryz.func39, Tryz.ntmps39
    go_wp2_with fail
    clear x0 x1
    refine (KA.out _).mono ?_; rintro e w1 ⟨rfl, g1⟩
    have RA1 := R0.out.step g1
    have z0 := RA1.ci
    have hc := (HN.out.below RA1.bel).2
    go_wp2_with fail
    exact ⟨rfl, rfl, RA1.bel⟩
  by_cases hd1 : d ≤ 1000000000
  case neg =>
    have hd : ¬ d < 1 := by omega
    have hd2 : 1000000000 < d := by omega
    clear h ho fa hd0 hd1
    go_enter Tryz.func39, Tryz.ntmps39
    go_wp2_with fail
    clear x0 x1
    refine (KA.out _).mono ?_; rintro e w1 ⟨rfl, g1⟩
    have RA1 := R0.out.step g1
    have z0 := RA1.ci
    have hc := (HN.out.below RA1.bel).2
    go_wp2_with fail
    exact ⟨rfl, rfl, RA1.bel⟩
  have h' := h ho hd0 hd1
  clear h fa x0 x1
  obtain ⟨a1, a2, a3, a4, -⟩ := ho
  obtain ⟨p1, q1⟩ := Ra.prod_bd (a := n) (b := d) (by omega) (by omega) (by omega) (by omega)
  have p2 : 2 * n * d = 2 * (n * d) := Int.mul_assoc _ _ _
  have e1 : IntKind.i64.wrap (2 * n) = 2 * n := IntWalk.i64_in _ (by omega)
  have e2 : IntKind.i64.wrap (2 * n * d) = 2 * n * d := IntWalk.i64_in _ (by omega)
  have e3 : IntKind.i64.wrap (2 * n * d + q) = 2 * n * d + q := IntWalk.i64_in _ (by omega)
  have e4 : IntKind.i64.wrap (2 * q) = 2 * q := IntWalk.i64_in _ (by omega)
  have hq : ∀ w, Calls Tryz.prog 40 #[.int .i64 (2 * n * d + q), .int .i64 (2 * q)] w fun e w' => e = .returned (.int .i64 (Ra.rnd n q d)) ∧ w = w' := fun w => floorQ_any _ _ w (by omega) (by omega) (by omega) (by omega)
  obtain ⟨r1, r2⟩ := flo_abs (n := 2 * n * d + q) (d := 2 * q)
  have hr : ∀ w, NoneAt a w → Calls Tryz.prog 30 #[.int .i64 (Ra.rnd n q d), .int .i64 d] w fun e w' => e = raised a ∧ Below w.heap.size w w' := fun w hN => by
    have r1' : _ ≤ Ra.rnd n q d := r1
    have r2' : Ra.rnd n q d ≤ _ := r2
    exact reduce_no _ _ w (by omega) (by omega) (by omega) (by omega) a hN h'
  generalize Ra.rnd n q d = K at hq hr
  have HQ := Lib.hid hq; have HR := Lib.hid hr
  have HS : Hid (∀ w1 w2, (w1.cell? ⟨A, 0, none⟩ = some (.int .i64 n) ∧ w1.cell? ⟨A, 1, none⟩ = some (.int .i64 q) ∧ w1.cell? ⟨B, 0, none⟩ = some (.int .i64 d) ∧ RoundAt W A B n q d w1) → Below w1.heap.size w1 w2 →
      (w2.cell? ⟨A, 0, none⟩ = some (.int .i64 n) ∧ w2.cell? ⟨A, 1, none⟩ = some (.int .i64 q) ∧ w2.cell? ⟨B, 0, none⟩ = some (.int .i64 d) ∧ RoundAt W A B n q d w2)) :=
    Lib.hid fun w1 w2 ⟨_, _, _, hh⟩ hb => ⟨(hh.step hb).c0, (hh.step hb).c1, (hh.step hb).ci, hh.step hb⟩
  clear hq hr r1 r2 p1 q1 p2 h'
  have E1 := Lib.hid e1; have E2 := Lib.hid e2; have E3 := Lib.hid e3; have E4 := Lib.hid e4
  have x0 := R0.out.c0; have x1 := R0.out.c1
  clear e1 e2 e3 e4
  go_enter Tryz.func39, Tryz.ntmps39
  go_wp2_with fail
  clear x0 x1
  refine (KA.out _).mono ?_; rintro e w1 ⟨rfl, g1⟩
  have RA1 := R0.out.step g1
  have z0 := RA1.ci
  go_wp2_with fail
  have x0 := RA1.c0; have x1 := RA1.c1
  have e1 := E1.out; have e2 := E2.out; have e3 := E3.out; have e4 := E4.out
  have h0 : w1.cell? ⟨A, 0, none⟩ = some (.int .i64 n) ∧ w1.cell? ⟨A, 1, none⟩ = some (.int .i64 q) ∧ w1.cell? ⟨B, 0, none⟩ = some (.int .i64 d) ∧ RoundAt W A B n q d w1 := ⟨x0, x1, z0, RA1⟩
  go_still_tail 13, (by kernel_rfl)
  still_call ((HQ.out _).mono (fun _ _ ⟨he, hw⟩ => ⟨he, hw.symm⟩))
  repeat still_step
  refine wpStill_nil ?_
  change wpList _ _ _ _ _ w1.drew
  go_wp2_with fail
  refine (HR.out _ (HN.out.below (RA1.step (Below.refl _ _).drew).bel)).mono ?_; rintro e w4 ⟨rfl, hb4⟩
  have l4 := ((RA1.step (Below.refl _ _).drew).step hb4).bel
  go_wp2_with fail
  exact ⟨rfl, rfl, l4⟩

/-- What Round answers. -/
def roundR (n q d : Int) : Option (Int × Int) := if Ra.Ok n q ∧ 1 ≤ d ∧ d ≤ 1000000000 then Ra.red (Ra.rnd n q d) d else none
set_option maxRecDepth 100000 in
set_option maxHeartbeats 400000 in
theorem Round_any (n q d : Int) (w : World) (a : Addr) (hN : NoneAt a w) (fa : Fits n ∧ Fits q) :
    Calls Tryz.prog 16 #[ratV n q, .int .i64 d] w fun e w' => e = .returned (ratRes (roundR n q d)) ∧ Below w.heap.size w w' := by
  have eK := enters_of Tryz.func39 (by kernel_rfl) rfl
  have hmf : ∀ (fn : Fn) (first cap : Array Value) (w : World), (Instr.makeFunc fn first cap).run Tryz.prog w = .ok (.func fn first cap) w := fun _ _ _ _ => rfl
  have ba := BoxAt.new w n q
  have bb := IntAt.new (w.alloc (.cells #[.int .i64 n, .int .i64 q] 25)) d
  have l0 : Below w.heap.size w ((w.alloc (.cells #[.int .i64 n, .int .i64 q] 25)).alloc (.cells #[.int .i64 d] 3)) := (below_new w _).alloc (by simp) _
  have ba2 := ba.below (below_new _ (.cells #[.int .i64 d] 3))
  rw [World.size_alloc] at bb
  cases h : roundR n q d with
  | some x =>
    obtain ⟨x, y⟩ := x
    show Calls _ _ _ _ fun e w' => e = .returned (.tuple #[ratV x y, .int .i64 0]) ∧ Below w.heap.size w w'
    have hc : ∀ W, Below (((w.alloc (.cells #[.int .i64 n, .int .i64 q] 25)).alloc (.cells #[.int .i64 d] 3)).alloc (.cells #[.int .i64 0, .int .i64 0] 25)).heap.size (((w.alloc (.cells #[.int .i64 n, .int .i64 q] 25)).alloc (.cells #[.int .i64 d] 3)).alloc (.cells #[.int .i64 0, .int .i64 0] 25)) W →
        Calls Tryz.prog 39 #[.pointer (some ⟨w.heap.size, 0, none⟩), .pointer (some ⟨w.heap.size + 1, 0, none⟩)] W fun e W' => e = .returned (ratV x y) ∧ Below W.heap.size W W' := fun W hW => by
      unfold roundR at h
      split at h
      · rename_i ho
        exact Round1_yes _ _ n q d x y W ((ba2.below (below_new _ _)).below hW) ((bb.below (below_new _ _)).below hW) ho.1 ho.2.1 ho.2.2 h
      · cases h
    have HC := Lib.hid hc
    clear hc h fa ba bb ba2 hN
    have HL := Lib.hid l0; clear l0
    go_enter Tryz.func16, Tryz.ntmps16
    go_wp2_with fail
    refine (attempt_yes 39 _ x y _ (eK _) HC.out).mono ?_; rintro e w1 ⟨rfl, g1⟩
    have l1 := below_step (below_step HL.out (below_new _ _)) g1
    have r0 := (BoxAt.new _ 0 0).below g1
    have fr : ∀ o, w1.frozen? ⟨w.heap.size + 1 + 1, o, none⟩ = false := fun o => by
      rw [g1.frozen (p := ⟨w.heap.size + 1 + 1, o, none⟩) (by simp)]; simp [go_sem]
    obtain ⟨r1, r2, r3⟩ := r0
    simp only [World.size_alloc] at r1 r2 r3
    go_wp2_with fail
    refine bodyPost_ret (v := .tuple #[ratV x y, .int .i64 0]) (by simp [results, Tryz.results16, go_sem, r2, r3]) rfl ⟨rfl, ?_⟩
    exact (l1.setCell (by simp; omega) _).setCell (by simp; omega) _
  | none =>
    show Calls _ _ _ _ fun e w' => e = .returned (.tuple #[ratV 0 0, .int .i64 30]) ∧ Below w.heap.size w w'
    have hn2 := (hN.below l0).below (below_new _ (.cells #[.int .i64 0, .int .i64 0] 25))
    have hc : ∀ W, Below (((w.alloc (.cells #[.int .i64 n, .int .i64 q] 25)).alloc (.cells #[.int .i64 d] 3)).alloc (.cells #[.int .i64 0, .int .i64 0] 25)).heap.size (((w.alloc (.cells #[.int .i64 n, .int .i64 q] 25)).alloc (.cells #[.int .i64 d] 3)).alloc (.cells #[.int .i64 0, .int .i64 0] 25)) W →
        Calls Tryz.prog 39 #[.pointer (some ⟨w.heap.size, 0, none⟩), .pointer (some ⟨w.heap.size + 1, 0, none⟩)] W fun e W' => e = raised a ∧ Below W.heap.size W W' := fun W hW => by
      refine Round1_no _ _ n q d W a (hn2.below hW) ((ba2.below (below_new _ _)).below hW) ((bb.below (below_new _ _)).below hW) fa fun ho h1 h2 => ?_
      unfold roundR at h
      rw [if_pos ⟨ho, h1, h2⟩] at h; exact h
    have HC := Lib.hid hc
    clear hc h fa ba bb ba2 hN
    have HL := Lib.hid l0; clear l0
    have HN := Lib.hid hn2; clear hn2
    go_enter Tryz.func16, Tryz.ntmps16
    go_wp2_with fail
    refine (attempt_no 39 _ a _ HN.out (eK _) HC.out).mono ?_; rintro e w1 ⟨rfl, g1⟩
    have l1 := below_step (below_step HL.out (below_new _ _)) g1
    have r0 := (BoxAt.new _ 0 0).below g1
    have fr : ∀ o, w1.frozen? ⟨w.heap.size + 1 + 1, o, none⟩ = false := fun o => by
      rw [g1.frozen (p := ⟨w.heap.size + 1 + 1, o, none⟩) (by simp)]; simp [go_sem]
    obtain ⟨r1, r2, r3⟩ := r0
    simp only [World.size_alloc] at r1 r2 r3
    go_wp2_with fail
    refine bodyPost_ret (v := .tuple #[ratV 0 0, .int .i64 30]) (by simp [results, Tryz.results16, go_sem, r2, r3]) rfl ⟨rfl, ?_⟩
    exact (l1.setCell (by simp; omega) _).setCell (by simp; omega) _
end Go.Proofs.YtkkhmgcjaehnkaaGreatDoor
