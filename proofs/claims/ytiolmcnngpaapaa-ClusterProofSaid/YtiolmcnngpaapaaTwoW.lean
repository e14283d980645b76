/-
  ClusterTwo.
-/
import Derived.Test.YtiolmcnngpaapaaOneW
import Derived.Test.YtiolmcnngpaapaaPt
namespace Go.Proofs.Ytiolmcnngpaapaa
open Go.RowKit Go.Shelf Cl
open Cy (Arc)

abbrev tlV (c : Tool) (b : Int) (a : Option Addr) (k : Nat) : Value := .agg #[.slice a c.chs.length k, .int .i64 c.pick, .int .i64 c.place, .int .i64 c.travel, .int .i64 b]
abbrev tlObj (c : Tool) (b : Int) (a : Option Addr) (k : Nat) : Obj := .cells #[.slice a c.chs.length k, .int .i64 c.pick, .int .i64 c.place, .int .i64 c.travel, .int .i64 b] 24
theorem tl_cells {b1 : Nat} {c : Tool} {b : Int} {a : Option Addr} {k : Nat} {W : World} (h : W.heap[b1]? = some (tlObj c b a k)) :
    W.cell? ⟨b1, 0, none⟩ = some (.slice a c.chs.length k) ∧ W.cell? ⟨b1, 1, none⟩ = some (.int .i64 c.pick) ∧ W.cell? ⟨b1, 2, none⟩ = some (.int .i64 c.place) ∧ W.cell? ⟨b1, 3, none⟩ = some (.int .i64 c.travel) ∧ W.cell? ⟨b1, 4, none⟩ = some (.int .i64 b) :=
  ⟨box_cell h 0 _ rfl, box_cell h 1 _ rfl, box_cell h 2 _ rfl, box_cell h 3 _ rfl, box_cell h 4 _ rfl⟩
/-- Best with two blades: the answer, by what is possible. -/
theorem bestTwoB {c : Tool} (hv : validT c = true) (hb : c.blades = 2) (h1 : 1 ≤ wantTo c c.chs.length) (a : Option Addr) (k : Nat) (w : World) (h : ChA w a k c.chs) :
    (wantTo c c.chs.length > mostTo c c.chs.length → Calls Try.prog 22 #[toolV c a k] w (SchE w ⟨0, [], [], []⟩ 130)) ∧
    (¬ wantTo c c.chs.length > mostTo c c.chs.length → Calls Try.prog 22 #[toolV c a k] w (SchE w (provedS c (wantTo c c.chs.length) (iota (c.chs.length + 1))) 0) ∧ checkS c (provedS c (wantTo c c.chs.length) (iota (c.chs.length + 1))) = true) := by
  have ho := (two_feas hv hb (p := 1) (by omega)).1
  have hm : mostTo c c.chs.length ≤ 1000000 := ((le_mostTo c (mostTo c c.chs.length) c.chs.length).1 (Int.le_refl _)).1
  refine ⟨fun hgt => ?_, fun hle => ?_⟩
  · refine (cBest_any c a k w h).mono fun e w' ⟨f, s, oa, sa, qa, oc, sc, qc, he, k1, k2, k3, hb', h4, h5⟩ => ?_
    cases f with
    | true =>
      obtain ⟨p, o, h6, rfl⟩ := h5 rfl
      have hmem := h6.mem
      rw [ho, List.mem_singleton] at hmem
      subst hmem
      have := (two_any hv hb h6.bd).1 h6.yes
      omega
    | false =>
      obtain ⟨-, rfl⟩ := h4 rfl
      exact ⟨oa, sa, qa, oc, sc, qc, he, k1, k2, k3, hb'⟩
  · exact bestFrom_any ho ⟨h1, by omega⟩ ((two_any hv hb ⟨h1, by omega⟩).2 ⟨Int.le_refl _, by omega⟩) (fun p p1 p2 hy => ((two_any hv hb ⟨p1, p2⟩).1 hy).1) a k w h
set_option maxRecDepth 100000 in
set_option maxHeartbeats 4000000 in
theorem two_law (x0 x1 x2 x3 x4 : Int) (xa : Option Addr) (xc : Nat) (X : List (List Int)) (W : World) (h0 : Fits x0) (h1 : Fits x1) (h2 : Fits x2) (h3 : Fits x3) (h4 : Fits x4) (hX : ArrsA 2 W xa xc X) :
    Calls Try.prog 10 #[fiveV x0 x1 x2 x3 x4, .slice xa X.length xc] W fun e w' => e = .returned (.bool true) ∧ Below W.heap.size W w' := by
  have hv0 := mkT_valid x0 x1 x2 x3 x4 X
  have HMk := Lib.hid (fun (w : World) (h : Below W.heap.size W w) => rMake_any x0 x1 x2 x3 x4 h0 h1 h2 h3 h4 X xa xc w (hX.below h))
  unfold MakeP at HMk
  have hpp := (show 1 ≤ (mkT x0 x1 x2 x3 x4 X).pick ∧ 1 ≤ (mkT x0 x1 x2 x3 x4 X).place from ⟨by have := pickZ_bd (c := x0) (n := 5) (by omega); simp only [mkT]; omega, by have := pickZ_bd (c := x1) (n := 5) (by omega); simp only [mkT]; omega⟩)
  generalize mkT x0 x1 x2 x3 x4 X = c at *
  have hv := setB_valid hv0 (b := 2) (.inr rfl)
  obtain ⟨hp1, hp2, hp3, -, hp5, hp6⟩ := validT_iff.1 hv0
  have hwk : wk2 (setB c 2) = c.pick + c.place := rfl
  have hW0 : wantTo (setB c 2) 0 = ((c.chs.length : Int) + 1) * (c.pick + c.place + c.travel) := rfl
  have hbase : 4 ≤ ((c.chs.length : Int) + 1) * (c.pick + c.place + c.travel) ∧ ((c.chs.length : Int) + 1) * (c.pick + c.place + c.travel) ≤ 150000 := by
    obtain h | h | h | h : (c.chs.length : Int) = 1 ∨ (c.chs.length : Int) = 2 ∨ (c.chs.length : Int) = 3 ∨ (c.chs.length : Int) = 4 := by omega
    all_goals rw [h]; omega
  have hwb : ∀ i, i ≤ c.chs.length → 4 ≤ wantTo (setB c 2) i ∧ wantTo (setB c 2) i ≤ 150000 := by
    intro i; induction i with
    | zero => intro _; rw [hW0]; exact hbase
    | succ i ih =>
      intro hi
      have := ih (by omega)
      have ht := hp6 _ (chAt_mem (c := c) (i := i) (by omega))
      have hst : wantTo (setB c 2) (i + 1) = max (wantTo (setB c 2) i) (c.pick + c.place + (c.chs.getD i ⟨0, 0⟩).t) := rfl
      rw [hst]; omega
  have HWb := Lib.hid hwb
  have HBest := Lib.hid (fun (w : World) (a : Option Addr) (k : Nat) (h : ChA w a k c.chs) => bestTwoB hv rfl (by have := hwb c.chs.length (Nat.le_refl _); exact Int.le_trans (by omega) this.1) a k w h)
  have HCkA := Lib.hid (fun (s : Sch) (hs : s.p ≤ 1000000 ∧ 0 ≤ s.p) (hck : checkS (setB c 2) s = true) (w : World) (a oa sa qa : Option Addr) (k oc sc qc : Nat) (h : ChA w a k c.chs) (ho : IntsA w oa oc s.o) (hss : IntsA w sa sc s.s) (hq : IntsA w qa qc s.q) =>
    (show Calls Try.prog 26 #[tlV c 2 a k, schV s oa sa qa oc sc qc] w fun e w' => e = .returned (.bool true) ∧ Below w.heap.size w w' by
      have := cCheck_any (setB c 2) s (by unfold Fits; omega) a oa sa qa k oc sc qc w h ho hss hq
      rw [hck] at this; exact this))
  have HSn := Lib.hid sane13_any
  have HP6 := Lib.hid hp6
  have HX := Lib.hid (heap_alloc_new W (fiveObj x0 x1 x2 x3 x4))
  have HB := Lib.hid (below_new W (fiveObj x0 x1 x2 x3 x4))
  have d1 : IntKind.i64.wrap (c.pick + c.place) = c.pick + c.place := IntWalk.i64_in _ (by omega)
  have d2 : IntKind.i64.wrap ((c.chs.length : Int) + 1) = (c.chs.length : Int) + 1 := IntWalk.i64_in _ (by omega)
  have d3 : IntKind.i64.wrap (c.pick + c.place + c.travel) = c.pick + c.place + c.travel := IntWalk.i64_in _ (by omega)
  have d4 : IntKind.i64.wrap (((c.chs.length : Int) + 1) * (c.pick + c.place + c.travel)) = ((c.chs.length : Int) + 1) * (c.pick + c.place + c.travel) := IntWalk.i64_in _ (by omega)
  have hlX := Nat.le_trans hX.1 hX.2.1
  clear hv0 hv hwk hwb hbase h0 h1 h2 h3 h4 hX hlX
  go_enter Try.func10, Try.ntmps10
  go_wp2_with fail
  refine (HSn.out _).mono ?_
  rintro _ w1 ⟨rfl, b1⟩
  have HX1 := Lib.hid (box_below HX.out b1); have B1 := Lib.hid (below_step HB.out b1)
  have e0 : w1.cell? ⟨W.heap.size, 0, none⟩ = some (.int .i64 x0) := box_cell HX1.out 0 _ rfl
  have e1 : w1.cell? ⟨W.heap.size, 1, none⟩ = some (.int .i64 x1) := box_cell HX1.out 1 _ rfl
  have e2 : w1.cell? ⟨W.heap.size, 2, none⟩ = some (.int .i64 x2) := box_cell HX1.out 2 _ rfl
  have e3 : w1.cell? ⟨W.heap.size, 3, none⟩ = some (.int .i64 x3) := box_cell HX1.out 3 _ rfl
  have e4 : w1.cell? ⟨W.heap.size, 4, none⟩ = some (.int .i64 x4) := box_cell HX1.out 4 _ rfl
  have HM1 := Lib.hid (HMk.out w1 B1.out)
  clear b1 HX HB
  go_wp2_with fail
  refine HM1.out.mono ?_
  rintro _ w2 ⟨a, k, rfl, ha, b2⟩
  have B2 := Lib.hid (below_step B1.out b2); have A2 := Lib.hid ha
  clear ha b2 B1 HX1 e0 e1 e2 e3 e4 HMk HM1 HSn
  go_upto_region 4 with (fail)
  have T3 := Lib.hid (heap_alloc_new w2 (tlObj c 2 a k))
  have hb3 := below_new w2 (tlObj c 2 a k)
  have B3 := Lib.hid (below_step B2.out hb3); have A3 := Lib.hid (A2.out.below hb3)
  generalize w2.alloc (tlObj c 2 a k) = w3 at *
  clear hb3 B2 A2
  generalize w2.heap.size = b1 at *
  obtain ⟨t0, t1, t2, t3, t4⟩ := tl_cells T3.out
  go_wp2_with fail
  go_loopw [8, 9, 10] (fun wv mv iv wr => ∃ i : Nat, i ≤ c.chs.length ∧ wv = .int .i64 (wantTo (setB c 2) i) ∧ mv = .int .i64 (mostTo (setB c 2) i) ∧ iv = .int .i64 (i : Int) ∧ Hid (Below w3.heap.size w3 wr)) (fun _ _ iv _ => c.chs.length - (intOf iv).toNat)
  case atStart => exact ⟨0, Nat.zero_le _, by rw [hW0], rfl, rfl, Lib.hid (Below.refl _ _)⟩
  case round =>
    clear t0 t1 t2 t3 t4
    obtain ⟨i, hi, rfl, rfl, rfl, HG⟩ := hrel
    have T4 := Lib.hid (box_below T3.out HG.out)
    obtain ⟨t0, t1, t2, t3, t4⟩ := tl_cells T4.out
    have i0 : (0 : Int) ≤ (i : Int) := by omega
    by_cases hlt : i < c.chs.length
    · have i1 : (i : Int) < (c.chs.length : Int) := by omega
      obtain ⟨b, off, hab, hb, hc⟩ := (A3.out.below HG.out).at (by omega)
      obtain ⟨y0, y1⟩ := ch_cells (hc i hlt)
      have HS1 := Lib.hid (show wantTo (setB c 2) (i + 1) = max (wantTo (setB c 2) i) (c.pick + c.place + (c.chs.getD i ⟨0, 0⟩).t) from rfl)
      have HS2 := Lib.hid (show mostTo (setB c 2) (i + 1) = min (mostTo (setB c 2) i) (c.pick + c.place + (c.chs.getD i ⟨0, 0⟩).t + (c.chs.getD i ⟨0, 0⟩).s) from rfl)
      rw [show c.chs.getD i ⟨0, 0⟩ = c.chs[i] by rw [List.getD_eq_getElem?_getD, List.getElem?_eq_getElem hlt]; rfl] at HS1 HS2
      have hq6 := HP6.out c.chs[i] (List.getElem_mem hlt)
      generalize c.chs[i] = y at *
      obtain ⟨T, S⟩ := y
      simp only at y0 y1 HS1 HS2 hq6
      generalize wantTo (setB c 2) i = wq at *
      generalize mostTo (setB c 2) i = mq at *
      have d5 : IntKind.i64.wrap (c.pick + c.place + T) = c.pick + c.place + T := IntWalk.i64_in _ (by omega)
      have d6 : IntKind.i64.wrap (c.pick + c.place + T + S) = c.pick + c.place + T + S := IntWalk.i64_in _ (by omega)
      have d7 : IntKind.i64.wrap ((i : Int) + 1) = (i : Int) + 1 := IntWalk.i64_in _ (by omega)
      subst hab
      clear hc
      go_upto_region 11 with (fail)
      go_quiet (fail)
      go_wp2_with fail
      go_roundw
      case rel => exact ⟨i + 1, by omega, by rw [HS1.out], by rw [HS2.out], by go_num, Lib.hid (below_drewN HG.out _)⟩
      case measure => simp [intOf]; omega
    · have i1 : ¬ (i : Int) < (c.chs.length : Int) := by omega
      obtain rfl : i = c.chs.length := by omega
      have A4 := Lib.hid (A3.out.below HG.out)
      have B4 := Lib.hid (below_step B3.out HG.out)
      obtain ⟨hgt, hle⟩ := HBest.out wr a k A4.out
      have hwb := HWb.out c.chs.length (Nat.le_refl _)
      have hlen : (setB c 2).chs.length = c.chs.length := rfl
      rw [hlen] at hgt hle
      by_cases hq : wantTo (setB c 2) c.chs.length > mostTo (setB c 2) c.chs.length
      · have HBe := Lib.hid (show Calls Try.prog 22 #[tlV c 2 a k] wr (SchE wr ⟨0, [], [], []⟩ 130) from hgt hq)
        unfold SchE at HBe
        generalize wantTo (setB c 2) c.chs.length = wq at *
        generalize mostTo (setB c 2) c.chs.length = mq at *
        clear hgt hle HBest HCkA
        go_wp2_with fail
        refine HBe.out.mono ?_
        rintro _ w4 ⟨oa, sa, qa, oc, sc, qc, rfl, -, -, -, b4⟩
        have B5 := Lib.hid (below_step B4.out (below_step b4 (below_new w4 (schObj ⟨0, [], [], []⟩ oa sa qa oc sc qc))))
        clear b4
        have hq' : mq < wq := hq
        go_wp2_with fail
        go_ret
        exact ⟨rfl, B5.out⟩
      · obtain ⟨hbe, hck⟩ := hle (by omega)
        have HBe := Lib.hid (show Calls Try.prog 22 #[tlV c 2 a k] wr (SchE wr (provedS (setB c 2) (wantTo (setB c 2) c.chs.length) (iota (c.chs.length + 1))) 0) from hbe)
        unfold SchE at HBe
        have hsp : (provedS (setB c 2) (wantTo (setB c 2) c.chs.length) (iota (c.chs.length + 1))).p = wantTo (setB c 2) c.chs.length := rfl
        have HCk := Lib.hid (HCkA.out (provedS (setB c 2) (wantTo (setB c 2) c.chs.length) (iota (c.chs.length + 1))) (by rw [hsp]; omega) hck)
        clear hbe hck
        generalize provedS (setB c 2) (wantTo (setB c 2) c.chs.length) (iota (c.chs.length + 1)) = sch at *
        generalize wantTo (setB c 2) c.chs.length = wq at *
        generalize mostTo (setB c 2) c.chs.length = mq at *
        have qs : (sch.p == wq) = true := by simp [hsp]
        have hq' : ¬ mq < wq := hq
        clear hsp hgt hle HBest HCkA hq
        go_wp2_with fail
        refine HBe.out.mono ?_
        rintro _ w4 ⟨oa, sa, qa, oc, sc, qc, rfl, k1, k2, k3, b4⟩
        have hbn := below_step b4 (below_new w4 (schObj sch oa sa qa oc sc qc))
        have B5 := Lib.hid (below_step B4.out hbn); have T5 := Lib.hid (box_below T4.out hbn); have A5 := Lib.hid (A4.out.below hbn)
        have S5 := Lib.hid (show ScAt w4.heap.size sch oa sa qa oc sc qc (w4.alloc (schObj sch oa sa qa oc sc qc)) from ⟨heap_alloc_new _ _, k1.below (below_new _ _), k2.below (below_new _ _), k3.below (below_new _ _)⟩)
        clear b4 hbn k1 k2 k3 t0 t1 t2 t3 t4 HBe
        go_upto_region 13 with (fail)
        generalize w4.alloc (schObj sch oa sa qa oc sc qc) = w5 at *
        obtain ⟨t0, t1, t2, t3, t4⟩ := tl_cells T5.out
        obtain ⟨s0, s1, s2, s3⟩ := schC_of S5.out.box
        have HC5 := Lib.hid (HCk.out w5 a oa sa qa k oc sc qc A5.out S5.out.ro S5.out.rs S5.out.rq)
        go_wp2_with fail
        refine HC5.out.mono ?_
        rintro _ w6 ⟨rfl, b6⟩
        have B6 := Lib.hid (below_step B5.out b6)
        clear b6
        go_wp2_with fail
        go_ret
        exact ⟨rfl, B6.out⟩
end Go.Proofs.Ytiolmcnngpaapaa
