/-
  The contract of Check.
-/
import Derived.Test.YtihohjgjklcnlaaDoorQBj
namespace Go.Proofs.YtihohjgjklcnlaaDoor
open Go.RowKit Go.Shelf
attribute [local go_sem] Oper.semAt_some

theorem criticals_any (q : PlanP) (w : World) : Calls Tryd.prog 33 #[q.val] w fun e w' => e = .returned (.func (.func 60) #[] #[.pointer (some ⟨w.heap.size, 0, none⟩)]) ∧ w' = w.alloc (planObj q) := by
  have hmf : ∀ (fn : Fn) (first cap : Array Value) (w : World), (Instr.makeFunc fn first cap).run Tryd.prog w = .ok (.func fn first cap) w := fun _ _ _ _ => rfl
  go_enter Tryd.func33, Tryd.ntmps33
  go_wp2_with fail
  go_ret
  exact ⟨rfl, rfl⟩
/-- The critical scenarios as a sequence. -/
theorem crit_told (n : Nat) (hn : 1 ≤ n) (Bp : Nat) (q : PlanP) (w : World) (hBp : w.heap[Bp]? = some (planObj q)) (hq : q.ok w) (hv : Pl.Valid q.p) :
    SeqTold ScE KC Fence.wide n Tryd.prog 60 #[.pointer (some ⟨Bp, 0, none⟩)] (fun x : ScenP => #[x.val]) (fun ys => ys.map (·.s) = Pl.criticals q.p) (fun pre => pre.map (·.s) <+: Pl.criticals q.p) 30 w :=
  fun l J Jx W hW hJ _ hY h0 => crit1_in n hn l Bp q W J Jx hJ hY (box_below hBp hW) (hq.below hW) hv h0
/-- How late a scenario makes a plan, as Run tells it. -/
def lateA (p : Pl.Plan) (s : Pl.Scen) : Bool := decide ((Pl.answer p s).1.kind ≠ 0)
/-- The boxes of Check. -/
structure RB (w : World) (q : PlanP) (r : ScenP) (b : Bool) (W : World) : Prop where
  pb : W.heap[w.heap.size]? = some (planObj q)
  rb : W.heap[w.heap.size + 1]? = some (scenObj r)
  bb : W.heap[w.heap.size + 1 + 1]? = some (.cells #[.bool b] 4)
theorem RB.kc {w : World} {q : PlanP} {r : ScenP} {b : Bool} {W W' : World} (h : RB w q r b W) (hk : KC W W') : RB w q r b W' := ⟨hk.cells _ _ h.pb rfl, hk.cells _ _ h.rb rfl, hk.cells _ _ h.bb rfl⟩
theorem RB.below {w : World} {q : PlanP} {r : ScenP} {b : Bool} {W W' : World} (h : RB w q r b W) (hb : Below W.heap.size W W') : RB w q r b W' := h.kc (KC.ofBelow hb)
abbrev noScen : ScenP := ⟨Pl.scen0, none, 0, none, 0⟩
/-- Between two rounds: none that came makes the plan late. -/
def FI (w : World) (q : PlanP) (pre : List ScenP) (W : World) : Prop := RB w q noScen false W ∧ q.ok W ∧ Below w.heap.size w W ∧ ∀ x ∈ pre, lateA q.p x.s = false
/-- The round has found one. -/
def FX (w : World) (q : PlanP) (pre : List ScenP) (W : World) : Prop := ∃ p x, pre = p ++ [x] ∧ (∀ y ∈ p, lateA q.p y.s = false) ∧ lateA q.p x.s = true ∧ RB w q x false W ∧ ScE x W ∧ Below w.heap.size w W
theorem FI_own {w : World} {q : PlanP} {B : Nat} (hB : w.heap.size ≤ B) : OwnFrom B (FI w q) := fun _ _ _ _ hs hg hr => by
  have hk := KC.of_grown hg (fun r e => (hr r e).2)
  exact ⟨hs.1.kc hk, hs.2.1.kc hk, hs.2.2.1.grown hg hs.2.2.1.size (fun k e => Nat.le_trans hB (hr k e).1), hs.2.2.2⟩
theorem FX_own {w : World} {q : PlanP} {B : Nat} (hB : w.heap.size ≤ B) (c : Code) : OwnFrom B (fun pre W => c = .ret ∧ FX w q pre W) := fun _ _ _ _ hs hg hr => by
  obtain ⟨e0, p, x, e1, h1, h2, h3, h4, h5⟩ := hs
  have hk := KC.of_grown hg (fun r e => (hr r e).2)
  exact ⟨e0, p, x, e1, h1, h2, h3.kc hk, h4.kc hk, h5.grown hg h5.size (fun k e => Nat.le_trans hB (hr k e).1)⟩
theorem ok_own (B : Nat) : OwnFrom B ScE := fun _ _ _ _ hs hg hr => hs.kc (KC.of_grown hg (fun r e => (hr r e).2))
theorem keeps_below {B : Nat} {W Y : World} (h : Below W.heap.size W Y) : KeepsFrom B W Y := KeepsFrom.of_grownBy (grown_of_below h) (fun j e => by cases e)
def checkV (r : ScenP) (b : Bool) : Value := .tuple #[r.val, .bool b]
/-- What Check leaves. -/
def CheckPost (p : Pl.Plan) (w : World) (e : Ending) (w' : World) : Prop := ∃ r : ScenP, r.s = (Pl.checkR p).1 ∧ e = .returned (checkV r (Pl.checkR p).2) ∧ ScE r w' ∧ Below w.heap.size w w'
theorem answer_of {p : Pl.Plan} {s : Pl.Scen} (h : Pl.Poss p s) : Pl.answer p s = (Pl.run p s, 0) := by unfold Pl.answer; rw [if_pos (Pl.possible_iff.2 h)]
theorem late_crit {p : Pl.Plan} (hv : Pl.Valid p) {s : Pl.Scen} (hs : s ∈ Pl.criticals p) : lateA p s = Pl.isLate p s := by unfold lateA Pl.isLate; rw [answer_of (Pl.crit_poss hv s hs)]
/-- None was late: the plan is safe. -/
theorem check_none {p : Pl.Plan} (hv : Pl.Valid p) {ys : List ScenP} (hS : ys.map (·.s) = Pl.criticals p) (hN : ∀ x ∈ ys, lateA p x.s = false) : Pl.checkR p = (Pl.scen0, true) := by
  unfold Pl.checkR
  rw [if_pos (Pl.valid_iff.2 hv)]
  have : (Pl.criticals p).find? (Pl.isLate p) = none := List.find?_eq_none.2 fun s hs => by
    rw [← late_crit hv hs]
    rw [← hS] at hs
    obtain ⟨y, hy, rfl⟩ := List.mem_map.1 hs
    rw [hN y hy]; simp
  rw [this]
/-- One was late, and none before it. -/
theorem check_some {p : Pl.Plan} (hv : Pl.Valid p) {pre : List ScenP} {x : ScenP} (hS : (pre ++ [x]).map (·.s) <+: Pl.criticals p) (hN : ∀ y ∈ pre, lateA p y.s = false) (hx : lateA p x.s = true) : Pl.checkR p = (x.s, false) := by
  unfold Pl.checkR
  rw [if_pos (Pl.valid_iff.2 hv)]
  obtain ⟨r, hr⟩ := hS
  have hm : ∀ y ∈ pre ++ [x], y.s ∈ Pl.criticals p := fun y hy => by rw [← hr]; exact List.mem_append_left _ (List.mem_map_of_mem hy)
  have : (Pl.criticals p).find? (Pl.isLate p) = some x.s := by
    rw [← hr, List.map_append, List.append_assoc, List.find?_append]
    have h1 : (pre.map (·.s)).find? (Pl.isLate p) = none := List.find?_eq_none.2 fun s hs => by
      obtain ⟨y, hy, rfl⟩ := List.mem_map.1 hs
      rw [← late_crit hv (hm y (List.mem_append_left _ hy)), hN y hy]; simp
    rw [h1]
    simp only [List.map_cons, List.map_nil, List.singleton_append, Option.none_or]
    rw [List.find?_cons_of_pos (by rw [← late_crit hv (hm x (by simp))]; exact hx)]
  rw [this]
/-- Check returns what lies in its two boxes. -/
theorem check_end {w V : World} {q : PlanP} {r : ScenP} {b : Bool} {D : Nat} {us : Array Value} (h2 : us[2]? = some (.pointer (some ⟨w.heap.size + 1, 0, none⟩))) (h3 : us[3]? = some (.pointer (some ⟨w.heap.size + 1 + 1, 0, none⟩))) (hr : Pl.checkR q.p = (r.s, b)) (h : RB w q r b V) (ho : ScE r V) (hb : Below w.heap.size w V) (hD : w.heap.size ≤ D) (hK : V.heap[D]? = some (.deferred (some []))) :
    LeavesInM Fence.wide 6 Tryd.prog Tryd.f12 us (CheckPost q.p w) [] FrameMode.returning (V.putObj D (.deferred none)) := by
  have hk := h.kc (KC.putObj V D _ (.deferred none) hK rfl)
  have ok := ho.kc (KC.putObj V D _ (.deferred none) hK rfl)
  have r0 := box_cell hk.rb 0 (.slice r.da r.s.dur.length r.dc) rfl
  have r1 := box_cell hk.rb 1 (.slice r.ma r.s.mv.length r.mc) rfl
  have r2 := box_cell hk.rb 2 (.int .i64 r.s.det) rfl
  have r3 := box_cell hk.rb 3 (.int .i64 r.s.tool) rfl
  have r4 := box_cell hk.rb 4 (.int .i64 r.s.at_) rfl
  have b0 := box_cell hk.bb 0 (.bool b) rfl
  refine ⟨checkV r b, by simp [results, Tryd.results12, go_sem, h2, h3, r0, r1, r2, r3, r4, b0, checkV], ?_⟩
  exact ⟨r, by rw [hr], by rw [hr], ok, hb.trans (belowK_b (w := w) (Nat.le_refl _) V D _ _ hD hK rfl rfl)⟩
set_option maxRecDepth 100000 in
set_option maxHeartbeats 2000000 in
theorem Check_yes (q : PlanP) (w : World) (h : q.ok w) (hv : Pl.Valid q.p) : Calls Tryd.prog 12 #[q.val] w (CheckPost q.p w) := by
  obtain ⟨W3, hW3⟩ : ∃ V, ((w.alloc (planObj q)).alloc zeroScen).alloc (.cells #[.bool false] 4) = V := ⟨_, rfl⟩
  have hb3 : Below w.heap.size w W3 := by rw [← hW3]; exact below_step (below_step (below_new _ _) (below_new _ _)) (below_new _ _)
  have RB0 := Lib.hid (show RB w q noScen false W3 from by
    rw [← hW3]
    refine ⟨?_, ?_, ?_⟩
    · exact box_below (box_below (heap_alloc_new _ _) (below_new _ _)) (below_new _ _)
    · have := heap_alloc_new (w.alloc (planObj q)) zeroScen
      rw [World.size_alloc] at this
      exact box_below this (below_new _ _)
    · have := heap_alloc_new ((w.alloc (planObj q)).alloc zeroScen) (.cells #[.bool false] 4)
      rwa [World.size_alloc, World.size_alloc] at this)
  have HB3 := Lib.hid hb3
  have HQ := Lib.hid (h.below hb3)
  have HV := Lib.hid hv
  have HVa := Valid_any q W3 HQ.out
  rw [Pl.valid_iff.2 hv] at HVa
  have HVa := Lib.hid HVa
  clear h hv hb3
  obtain ⟨⟨en, mi, ma, st, wn⟩, sa, sc, wa, wc⟩ := q
  dsimp only [planObj, zeroScen] at hW3
  have c0 := box_cell RB0.out.pb 0 (.int .i64 en) rfl
  have c1 := box_cell RB0.out.pb 1 (.int .i64 mi) rfl
  have c2 := box_cell RB0.out.pb 2 (.int .i64 ma) rfl
  have c3 := box_cell RB0.out.pb 3 (.slice sa st.length sc) rfl
  have c4 := box_cell RB0.out.pb 4 (.slice wa wn.length wc) rfl
  refine (callsIn_wide (n := 6)).1 ?_
  refine callsIn_of_wp_marks Tryd.func12 rfl trivial ?_ rfl
  simp only [Tryd.ntmps12, List.size_toArray, List.length_cons, List.length_nil, Nat.reduceAdd, Nat.reduceSub, Array.replicate_succ, Array.replicate_zero, List.push_toArray, List.append_toArray, List.nil_append, List.cons_append]
  gi_wp2_with fail
  refine ⟨trivial, (callsIn_wide.2 HVa.out).mono ?_⟩; rintro e w4 ⟨rfl, g4⟩
  clear hW3
  have RB4 := Lib.hid (RB0.out.below g4)
  have HQ4 := Lib.hid (HQ.out.below g4)
  have HB4 := Lib.hid (below_step HB3.out g4)
  clear c0 c1 c2 c3 c4 g4 RB0 HQ HB3 HVa
  have c0 := box_cell RB4.out.pb 0 (.int .i64 en) rfl
  have c1 := box_cell RB4.out.pb 1 (.int .i64 mi) rfl
  have c2 := box_cell RB4.out.pb 2 (.int .i64 ma) rfl
  have c3 := box_cell RB4.out.pb 3 (.slice sa st.length sc) rfl
  have c4 := box_cell RB4.out.pb 4 (.slice wa wn.length wc) rfl
  gi_wp2_with fail
  refine ⟨trivial, (callsIn_wide.2 (criticals_any ⟨⟨en, mi, ma, st, wn⟩, sa, sc, wa, wc⟩ w4)).mono ?_⟩; rintro e w' ⟨rfl, rfl⟩
  clear c0 c1 c2 c3 c4
  obtain ⟨w5, h5⟩ : ∃ V, w4.alloc (planObj ⟨⟨en, mi, ma, st, wn⟩, sa, sc, wa, wc⟩) = V := ⟨_, rfl⟩
  have hb5 : Below w4.heap.size w4 w5 := by rw [← h5]; exact below_new _ _
  have HS := Lib.hid (crit_told 5 (by omega) w4.heap.size ⟨⟨en, mi, ma, st, wn⟩, sa, sc, wa, wc⟩ w5 (by rw [← h5]; exact heap_alloc_new _ _) (HQ4.out.below hb5) HV.out)
  have HI0 := Lib.hid (show FI w ⟨⟨en, mi, ma, st, wn⟩, sa, sc, wa, wc⟩ [] w5 from ⟨RB4.out.below hb5, HQ4.out.below hb5, below_step HB4.out hb5, fun x hx => by cases hx⟩)
  have hz5 : w.heap.size ≤ w5.heap.size := (below_step HB4.out hb5).size
  rw [h5]
  clear h5 hb5 RB4 HQ4 HB4
  gi_wp2_with fail
  refine wpIn_rangeFunc_told rfl (by omega) (gf := 60) (lb := #[.pointer (some ⟨w4.heap.size, 0, none⟩)]) rfl trivial (enters_of Tryd.func60 (by kernel_rfl) rfl)
    HS.out KC.trans (fun W l o o' _ h hc _ => KC.putObj W l o o' h hc) (Below.refl _ _) (fun _ => rfl) (FI w ⟨⟨en, mi, ma, st, wn⟩, sa, sc, wa, wc⟩) (fun c pre W => c = .ret ∧ FX w ⟨⟨en, mi, ma, st, wn⟩, sa, sc, wa, wc⟩ pre W) (FI_own hz5) (fun c => FX_own hz5 c) (ok_own _) HI0.out
    (fun x a' W => ∃ b, a' = { tmps := #[PlanP.val ⟨⟨en, mi, ma, st, wn⟩, sa, sc, wa, wc⟩, .pointer (some ⟨w.heap.size, 0, none⟩), .pointer (some ⟨w.heap.size + 1, 0, none⟩), .pointer (some ⟨w.heap.size + 1 + 1, 0, none⟩), .pointer (some ⟨b, 0, none⟩), undef, undef, undef, .agg #[.int .i64 en, .int .i64 mi, .int .i64 ma, .slice sa st.length sc, .slice wa wn.length wc], .bool true, .bool false, undef, .agg #[.int .i64 en, .int .i64 mi, .int .i64 ma, .slice sa st.length sc, .slice wa wn.length wc], .func (.func 60) #[] #[.pointer (some ⟨w4.heap.size, 0, none⟩)], x.val, undef, undef, undef, undef, undef, undef, undef, undef, undef, undef, undef, undef], defers := [] } ∧ W.heap[b]? = some (scenObj x)) ?hAx ?assign ?body ?done ?stop
  case hAx =>
    rintro x a' V l o o' ⟨b, rfl, hb⟩ hl ho hc
    refine ⟨b, rfl, (World.putObj_heap_other (fun e => ?_)).trans hb⟩
    subst e; rw [hb] at ho; cases ho; cases hc
  case assign =>
    intro l pre x U K hI hE hK
    obtain ⟨⟨du, mv, de, tl, at0⟩, da, dc, mb, mc⟩ := x
    have hb := below_new U (scenObj ⟨⟨du, mv, de, tl, at0⟩, da, dc, mb, mc⟩)
    have hk := KC.ofBelow hb
    have HKf := Lib.hid (hK _ (U.alloc (scenObj ⟨⟨du, mv, de, tl, at0⟩, da, dc, mb, mc⟩)) (keeps_below hb) hk (FI_own (Nat.le_refl _) _ _ _ none hI (grown_of_below hb) (fun r e => by cases e)) (hE.kc hk) ⟨U.heap.size, rfl, heap_alloc_new _ _⟩)
    clear hK
    gi_wp2
    exact HKf.out
  case body =>
    rintro l pre x a' W hI hE ⟨b, rfl, hsb⟩ hlen
    obtain ⟨hRB, hq, hBW, hN⟩ := hI
    obtain ⟨⟨du, mv, de, tl, at0⟩, da, dc, mb, mc⟩ := x
    have c0 := box_cell hRB.pb 0 (.int .i64 en) rfl
    have c1 := box_cell hRB.pb 1 (.int .i64 mi) rfl
    have c2 := box_cell hRB.pb 2 (.int .i64 ma) rfl
    have c3 := box_cell hRB.pb 3 (.slice sa st.length sc) rfl
    have c4 := box_cell hRB.pb 4 (.slice wa wn.length wc) rfl
    have k0 := box_cell hsb 0 (.slice da du.length dc) rfl
    have k1 := box_cell hsb 1 (.slice mb mv.length mc) rfl
    have k2 := box_cell hsb 2 (.int .i64 de) rfl
    have k3 := box_cell hsb 3 (.int .i64 tl) rfl
    have k4 := box_cell hsb 4 (.int .i64 at0) rfl
    have HRB := Lib.hid hRB; have HQ := Lib.hid hq; have HBW := Lib.hid hBW; have HN := Lib.hid hN; have HE := Lib.hid hE; have HSB := Lib.hid hsb
    clear hRB hq hBW hN hE hsb
    gi_wp2_with fail
    refine ⟨trivial, (callsIn_wide.2 (Run_any ⟨⟨en, mi, ma, st, wn⟩, sa, sc, wa, wc⟩ ⟨⟨du, mv, de, tl, at0⟩, da, dc, mb, mc⟩ W HQ.out HE.out.ok)).mono ?_⟩; rintro e W1 ⟨va, vc, rfl, -, g1⟩
    have HLt := Lib.hid (show lateA ⟨en, mi, ma, st, wn⟩ ⟨du, mv, de, tl, at0⟩ = decide ((Pl.answer ⟨en, mi, ma, st, wn⟩ ⟨du, mv, de, tl, at0⟩).1.kind ≠ 0) from rfl)
    simp only
    generalize Pl.answer ⟨en, mi, ma, st, wn⟩ ⟨du, mv, de, tl, at0⟩ = A at *
    obtain ⟨⟨AV, Ak, An⟩, A2⟩ := A
    simp only at HLt
    clear c0 c1 c2 c3 c4 k0 k1 k2 k3 k4
    have NL := Lib.hid (heap_alloc_new W1 (lateObj Ak An))
    have hb2 := below_step g1 (below_new W1 (lateObj Ak An))
    have HB2 := Lib.hid hb2
    have HK2 := Lib.hid (KC.ofBelow hb2)
    have R1 := Lib.hid (HRB.out.below g1)
    have S1 := Lib.hid (box_below HSB.out g1)
    have E1 := Lib.hid (HE.out.below g1)
    have G1 := Lib.hid (below_step HBW.out g1)
    have KF1 := Lib.hid (keeps_below (B := w5.heap.size) g1)
    clear hb2 g1
    have k0 := box_cell S1.out 0 (.slice da du.length dc) rfl
    have k1 := box_cell S1.out 1 (.slice mb mv.length mc) rfl
    have k2 := box_cell S1.out 2 (.int .i64 de) rfl
    have k3 := box_cell S1.out 3 (.int .i64 tl) rfl
    have k4 := box_cell S1.out 4 (.int .i64 at0) rfl
    by_cases hk : Ak = 0
    · subst hk
      have HLF := Lib.hid (show lateA ⟨en, mi, ma, st, wn⟩ ⟨du, mv, de, tl, at0⟩ = false by rw [HLt.out]; simp)
      gi_wp2_with fail
      exact ⟨keeps_below HB2.out, HK2.out, HRB.out.kc HK2.out, HQ.out.kc HK2.out, below_step HBW.out HB2.out, fun y hy => by
        rcases List.mem_append.1 hy with hy | hy
        · exact HN.out y hy
        · rw [List.mem_singleton.1 hy]; exact HLF.out⟩
    · have HLF := Lib.hid (show lateA ⟨en, mi, ma, st, wn⟩ ⟨du, mv, de, tl, at0⟩ = true by rw [HLt.out]; simp [hk])
      have hk2 : ¬ Ak = (0 : Int) := hk
      have r0 := box_cell R1.out.rb 0 (.slice none 0 0) rfl
      have r1 := box_cell R1.out.rb 1 (.slice none 0 0) rfl
      have r2 := box_cell R1.out.rb 2 (.int .i64 0) rfl
      have r3 := box_cell R1.out.rb 3 (.int .i64 0) rfl
      have r4 := box_cell R1.out.rb 4 (.int .i64 0) rfl
      have b0 := box_cell R1.out.bb 0 (.bool false) rfl
      have z0 := box_fz R1.out.rb 0
      have z1 := box_fz R1.out.rb 1
      have z2 := box_fz R1.out.rb 2
      have z3 := box_fz R1.out.rb 3
      have z4 := box_fz R1.out.rb 4
      have zb := box_fz R1.out.bb 0
      have hlr := lt_of_block R1.out.rb
      have hlb := lt_of_block R1.out.bb
      have hls := lt_of_block S1.out
      have hne1 : ¬ b = W1.heap.size := by omega
      have hne2 : ¬ w.heap.size + 1 = W1.heap.size := by omega
      have hne3 : ¬ w.heap.size + 1 + 1 = W1.heap.size := by omega
      gi_wp2_with fail
      obtain ⟨F1, F2, F3⟩ := copy_scen E1.out R1.out.rb
      have hbb : (copied W1 (w.heap.size + 1) ⟨⟨du, mv, de, tl, at0⟩, da, dc, mb, mc⟩).heap[w.heap.size + 1 + 1]? = some (.cells #[.bool false] 4) := (F3.block _ hlb (by omega)).trans R1.out.bb
      have hpb : (copied W1 (w.heap.size + 1) ⟨⟨du, mv, de, tl, at0⟩, da, dc, mb, mc⟩).heap[w.heap.size]? = some (planObj ⟨⟨en, mi, ma, st, wn⟩, sa, sc, wa, wc⟩) := (F3.block _ (lt_of_block R1.out.pb) (by omega)).trans R1.out.pb
      have hc6 := one_ch (copied W1 (w.heap.size + 1) ⟨⟨du, mv, de, tl, at0⟩, da, dc, mb, mc⟩) (w.heap.size + 1 + 1) 0 (.bool false)
      have hb7 := below_new ((copied W1 (w.heap.size + 1) ⟨⟨du, mv, de, tl, at0⟩, da, dc, mb, mc⟩).setCell ⟨w.heap.size + 1 + 1, 0, none⟩ (.bool false)) (lateObj Ak An)
      have Y1 := Lib.hid ((F1.set hbb (by decide) 0 (.bool false)).below hb7)
      have Y2 := Lib.hid (box_below ((hc6.block _ (lt_of_block F2) (by omega)).trans F2) hb7)
      have Y3 := Lib.hid (box_below (block_set hbb (.bool false)) hb7)
      have Y4 := Lib.hid (box_below ((hc6.block _ (lt_of_block hpb) (by omega)).trans hpb) hb7)
      have hch := (F3.mono (S' := fun k => k = w.heap.size + 1 ∨ k = w.heap.size + 1 + 1) (fun _ h => .inl h)).trans (hc6.mono (S' := fun k => k = w.heap.size + 1 ∨ k = w.heap.size + 1 + 1) (fun _ h => .inr h)) (fun _ _ h => h)
      have Y5 := Lib.hid (below_step (G1.out.trans (hch.below G1.out.size (fun k hk => by omega))) hb7)
      have Y6 := Lib.hid (KF1.out.trans ((((((((KeepsOthers.setCell W1 ⟨w.heap.size + 1, 0, none⟩ (.slice da du.length dc)).trans (KeepsOthers.setCell _ ⟨w.heap.size + 1, 1, none⟩ (.slice mb mv.length mc))).trans (KeepsOthers.setCell _ ⟨w.heap.size + 1, 2, none⟩ (.int .i64 de))).trans (KeepsOthers.setCell _ ⟨w.heap.size + 1, 3, none⟩ (.int .i64 tl))).trans (KeepsOthers.setCell _ ⟨w.heap.size + 1, 4, none⟩ (.int .i64 at0))).trans (KeepsOthers.setCell _ ⟨w.heap.size + 1 + 1, 0, none⟩ (.bool false))).from w5.heap.size).trans (keeps_below hb7)))
      clear F1 F2 F3 hbb hpb hc6 hb7 hch
      dsimp only [copied, lateObj] at Y1 Y2 Y3 Y4 Y5 Y6
      generalize ((((((W1.setCell ⟨w.heap.size + 1, 0, none⟩ (.slice da du.length dc)).setCell ⟨w.heap.size + 1, 1, none⟩ (.slice mb mv.length mc)).setCell ⟨w.heap.size + 1, 2, none⟩ (.int .i64 de)).setCell ⟨w.heap.size + 1, 3, none⟩ (.int .i64 tl)).setCell ⟨w.heap.size + 1, 4, none⟩ (.int .i64 at0)).setCell ⟨w.heap.size + 1 + 1, 0, none⟩ (.bool false)).alloc (.cells #[.int .i64 Ak, .int .i64 An] 38) = Y at *
      show KeepsFrom _ _ _ ∧ _
      refine ⟨Y6.out, rfl, pre, ⟨⟨du, mv, de, tl, at0⟩, da, dc, mb, mc⟩, rfl, HN.out, HLF.out, ⟨Y4.out, Y2.out, Y3.out⟩, Y1.out, Y5.out⟩
  case done =>
    rintro D ys W hD hS hI hK
    obtain ⟨hRB, hq, hBW, hN⟩ := hI
    have HR := Lib.hid (check_none HV.out hS hN)
    have HRB := Lib.hid hRB; have HBW := Lib.hid hBW
    clear hRB hq hBW hN hS
    have HOk : Hid (ScE noScen W) := Lib.hid ⟨⟨RowA.nil _ _ _, RowA.nil _ _ _⟩, (fun x hx => by cases hx), (fun x hx => by cases hx)⟩
    have r0 := box_cell HRB.out.rb 0 (.slice none 0 0) rfl
    have r1 := box_cell HRB.out.rb 1 (.slice none 0 0) rfl
    have r2 := box_cell HRB.out.rb 2 (.int .i64 0) rfl
    have r3 := box_cell HRB.out.rb 3 (.int .i64 0) rfl
    have r4 := box_cell HRB.out.rb 4 (.int .i64 0) rfl
    have b0 := box_cell HRB.out.bb 0 (.bool false) rfl
    have z0 := box_fz HRB.out.rb 0
    have z1 := box_fz HRB.out.rb 1
    have z2 := box_fz HRB.out.rb 2
    have z3 := box_fz HRB.out.rb 3
    have z4 := box_fz HRB.out.rb 4
    have zb := box_fz HRB.out.bb 0
    have hlr := lt_of_block HRB.out.rb
    have hlb := lt_of_block HRB.out.bb
    gi_wp2_with fail
    obtain ⟨F1, F2, F3⟩ := copy_scen HOk.out HRB.out.rb
    have hbb : (copied W (w.heap.size + 1) noScen).heap[w.heap.size + 1 + 1]? = some (.cells #[.bool false] 4) := (F3.block _ hlb (by omega)).trans HRB.out.bb
    have hpb : (copied W (w.heap.size + 1) noScen).heap[w.heap.size]? = some (planObj ⟨⟨en, mi, ma, st, wn⟩, sa, sc, wa, wc⟩) := (F3.block _ (lt_of_block HRB.out.pb) (by omega)).trans HRB.out.pb
    have hc6 := one_ch (copied W (w.heap.size + 1) noScen) (w.heap.size + 1 + 1) 0 (.bool true)
    have Y1 := Lib.hid (F1.set hbb (by decide) 0 (.bool true))
    have Y2 := Lib.hid ((hc6.block _ (lt_of_block F2) (by omega)).trans F2)
    have Y3 := Lib.hid (block_set hbb (o := 0) (.bool true))
    have Y4 := Lib.hid ((hc6.block _ (lt_of_block hpb) (by omega)).trans hpb)
    have hch := (F3.mono (S' := fun k => k = w.heap.size + 1 ∨ k = w.heap.size + 1 + 1) (fun _ h => .inl h)).trans (hc6.mono (S' := fun k => k = w.heap.size + 1 ∨ k = w.heap.size + 1 + 1) (fun _ h => .inr h)) (fun _ _ h => h)
    have Y5 := Lib.hid (HBW.out.trans (hch.below HBW.out.size (fun k hk => by omega)))
    have Y6 := Lib.hid (((((((KeepsOthers.setCell W ⟨w.heap.size + 1, 0, none⟩ (.slice none 0 0)).trans (KeepsOthers.setCell _ ⟨w.heap.size + 1, 1, none⟩ (.slice none 0 0))).trans (KeepsOthers.setCell _ ⟨w.heap.size + 1, 2, none⟩ (.int .i64 0))).trans (KeepsOthers.setCell _ ⟨w.heap.size + 1, 3, none⟩ (.int .i64 0))).trans (KeepsOthers.setCell _ ⟨w.heap.size + 1, 4, none⟩ (.int .i64 0))).trans (KeepsOthers.setCell _ ⟨w.heap.size + 1 + 1, 0, none⟩ (.bool true))).same D _ hK rfl)
    clear F1 F2 F3 hbb hpb hc6 hch
    dsimp only [copied, noScen, Pl.scen0, List.length_nil] at Y1 Y2 Y3 Y4 Y5 Y6
    generalize ((((((W.setCell ⟨w.heap.size + 1, 0, none⟩ (.slice none 0 0)).setCell ⟨w.heap.size + 1, 1, none⟩ (.slice none 0 0)).setCell ⟨w.heap.size + 1, 2, none⟩ (.int .i64 0)).setCell ⟨w.heap.size + 1, 3, none⟩ (.int .i64 0)).setCell ⟨w.heap.size + 1, 4, none⟩ (.int .i64 0)).setCell ⟨w.heap.size + 1 + 1, 0, none⟩ (.bool true)) = Y at *
    refine ⟨by simp, .inl ⟨_, _, rfl, run_takeDeferred Y6.out, ?_⟩⟩
    exact check_end (r := noScen) (b := true) (by rfl) (by rfl) HR.out ⟨Y4.out, Y2.out, Y3.out⟩ Y1.out Y5.out (Nat.le_trans hz5 hD) Y6.out
  case stop =>
    rintro D c pre W hD hS ⟨rfl, p, x, rfl, hp, hx, hRB, hok, hBW⟩ hK
    have HR := Lib.hid (check_some HV.out hS hp hx)
    gi_wp2_with fail
    refine ⟨by simp, .inl ⟨_, _, rfl, run_takeDeferred hK, ?_⟩⟩
    exact check_end (by rfl) (by rfl) HR.out hRB hok hBW (Nat.le_trans hz5 hD) hK
set_option maxRecDepth 100000 in
set_option maxHeartbeats 2000000 in
theorem Check_no (q : PlanP) (w : World) (h : q.ok w) (hv : ¬ Pl.Valid q.p) : Calls Tryd.prog 12 #[q.val] w (CheckPost q.p w) := by
  obtain ⟨W3, hW3⟩ : ∃ V, ((w.alloc (planObj q)).alloc zeroScen).alloc (.cells #[.bool false] 4) = V := ⟨_, rfl⟩
  have hb3 : Below w.heap.size w W3 := by rw [← hW3]; exact below_step (below_step (below_new _ _) (below_new _ _)) (below_new _ _)
  have RB0 := Lib.hid (show RB w q noScen false W3 from by
    rw [← hW3]
    refine ⟨?_, ?_, ?_⟩
    · exact box_below (box_below (heap_alloc_new _ _) (below_new _ _)) (below_new _ _)
    · have := heap_alloc_new (w.alloc (planObj q)) zeroScen
      rw [World.size_alloc] at this
      exact box_below this (below_new _ _)
    · have := heap_alloc_new ((w.alloc (planObj q)).alloc zeroScen) (.cells #[.bool false] 4)
      rwa [World.size_alloc, World.size_alloc] at this)
  have HB3 := Lib.hid hb3
  have HQ := Lib.hid (h.below hb3)
  have HR := Lib.hid (Pl.check_not hv)
  have HVa := Valid_any q W3 HQ.out
  rw [show Pl.valid q.p = false by cases e : Pl.valid q.p; rfl; exact absurd (Pl.valid_iff.1 e) hv] at HVa
  have HVa := Lib.hid HVa
  clear h hv hb3
  obtain ⟨⟨en, mi, ma, st, wn⟩, sa, sc, wa, wc⟩ := q
  dsimp only [planObj, zeroScen] at hW3
  have c0 := box_cell RB0.out.pb 0 (.int .i64 en) rfl
  have c1 := box_cell RB0.out.pb 1 (.int .i64 mi) rfl
  have c2 := box_cell RB0.out.pb 2 (.int .i64 ma) rfl
  have c3 := box_cell RB0.out.pb 3 (.slice sa st.length sc) rfl
  have c4 := box_cell RB0.out.pb 4 (.slice wa wn.length wc) rfl
  refine (callsIn_wide (n := 6)).1 ?_
  refine callsIn_of_wp_marks Tryd.func12 rfl trivial ?_ rfl
  simp only [Tryd.ntmps12, List.size_toArray, List.length_cons, List.length_nil, Nat.reduceAdd, Nat.reduceSub, Array.replicate_succ, Array.replicate_zero, List.push_toArray, List.append_toArray, List.nil_append, List.cons_append]
  gi_wp2_with fail
  refine ⟨trivial, (callsIn_wide.2 HVa.out).mono ?_⟩; rintro e w4 ⟨rfl, g4⟩
  clear hW3
  have RB4 := Lib.hid (RB0.out.below g4)
  have HB4 := Lib.hid (below_step HB3.out g4)
  clear c0 c1 c2 c3 c4 g4 RB0 HQ HB3 HVa
  have r0 := box_cell RB4.out.rb 0 (.slice none 0 0) rfl
  have r1 := box_cell RB4.out.rb 1 (.slice none 0 0) rfl
  have r2 := box_cell RB4.out.rb 2 (.int .i64 0) rfl
  have r3 := box_cell RB4.out.rb 3 (.int .i64 0) rfl
  have r4 := box_cell RB4.out.rb 4 (.int .i64 0) rfl
  have b0 := box_cell RB4.out.bb 0 (.bool false) rfl
  have z0 := box_fz RB4.out.rb 0
  have z1 := box_fz RB4.out.rb 1
  have z2 := box_fz RB4.out.rb 2
  have z3 := box_fz RB4.out.rb 3
  have z4 := box_fz RB4.out.rb 4
  have zb := box_fz RB4.out.bb 0
  have hlr := lt_of_block RB4.out.rb
  have hlb := lt_of_block RB4.out.bb
  have HOk : Hid (ScE noScen w4) := Lib.hid ⟨⟨RowA.nil _ _ _, RowA.nil _ _ _⟩, (fun x hx => by cases hx), (fun x hx => by cases hx)⟩
  gi_wp2_with fail
  obtain ⟨F1, F2, F3⟩ := copy_scen HOk.out RB4.out.rb
  have hbb : (copied w4 (w.heap.size + 1) noScen).heap[w.heap.size + 1 + 1]? = some (.cells #[.bool false] 4) := (F3.block _ hlb (by omega)).trans RB4.out.bb
  have hpb : (copied w4 (w.heap.size + 1) noScen).heap[w.heap.size]? = some (planObj ⟨⟨en, mi, ma, st, wn⟩, sa, sc, wa, wc⟩) := (F3.block _ (lt_of_block RB4.out.pb) (by omega)).trans RB4.out.pb
  have hc6 := one_ch (copied w4 (w.heap.size + 1) noScen) (w.heap.size + 1 + 1) 0 (.bool false)
  have Y1 := Lib.hid (F1.set hbb (by decide) 0 (.bool false))
  have Y2 := Lib.hid ((hc6.block _ (lt_of_block F2) (by omega)).trans F2)
  have Y3 := Lib.hid (block_set hbb (o := 0) (.bool false))
  have Y4 := Lib.hid ((hc6.block _ (lt_of_block hpb) (by omega)).trans hpb)
  have hch := (F3.mono (S' := fun k => k = w.heap.size + 1 ∨ k = w.heap.size + 1 + 1) (fun _ h => .inl h)).trans (hc6.mono (S' := fun k => k = w.heap.size + 1 ∨ k = w.heap.size + 1 + 1) (fun _ h => .inr h)) (fun _ _ h => h)
  have Y5 := Lib.hid (HB4.out.trans (hch.below HB4.out.size (fun k hk => by omega)))
  clear F1 F2 F3 hbb hpb hc6 hch
  dsimp only [copied, noScen, Pl.scen0, List.length_nil] at Y1 Y2 Y3 Y4 Y5
  generalize ((((((w4.setCell ⟨w.heap.size + 1, 0, none⟩ (.slice none 0 0)).setCell ⟨w.heap.size + 1, 1, none⟩ (.slice none 0 0)).setCell ⟨w.heap.size + 1, 2, none⟩ (.int .i64 0)).setCell ⟨w.heap.size + 1, 3, none⟩ (.int .i64 0)).setCell ⟨w.heap.size + 1, 4, none⟩ (.int .i64 0)).setCell ⟨w.heap.size + 1 + 1, 0, none⟩ (.bool false)) = Y at *
  have r0 := box_cell Y2.out 0 (.slice none 0 0) rfl
  have r1 := box_cell Y2.out 1 (.slice none 0 0) rfl
  have r2 := box_cell Y2.out 2 (.int .i64 0) rfl
  have r3 := box_cell Y2.out 3 (.int .i64 0) rfl
  have r4 := box_cell Y2.out 4 (.int .i64 0) rfl
  have b0 := box_cell Y3.out 0 (.bool false) rfl
  show LeavesInM _ _ _ _ _ _ _ _ _
  refine ⟨checkV noScen false, by simp [results, Tryd.results12, go_sem, r0, r1, r2, r3, r4, b0, checkV, noScen, Pl.scen0], ?_⟩
  exact ⟨noScen, by rw [HR.out], by rw [HR.out], Y1.out, Y5.out⟩
/-- What Check answers. -/
theorem Check_any (q : PlanP) (w : World) (h : q.ok w) : Calls Tryd.prog 12 #[q.val] w (CheckPost q.p w) := by
  by_cases hv : Pl.Valid q.p
  · exact Check_yes q w h hv
  · exact Check_no q w h hv
end Go.Proofs.YtihohjgjklcnlaaDoor
