/-
  Contract of few: some flow in memory, short; nothing older is touched.
-/
import Derived.Test.YtblnfcffalaeaaaGreatDoorMake
import Derived.Test.YtblnfcffalaeaaaGreatDoorOpenFlow
import Derived.Test.YtblnfcffalaeaaaGreatDoorFlH
import Derived.Deep.LoopGhost
import Derived.Deep.DeepCutAuto
namespace Go.Proofs.YtblnfcffalaeaaaGreatDoor
open Go.RowKit Go.Shelf

/-- A block of type flow is written: nothing else is touched. -/
theorem fw_set {B b : Nat} {cs : Array Value} {w : World} (hb : w.heap[b]? = some (.cells cs 25)) (j : Nat) (u : Value) :
    (∀ {e : TypeId} {size : Nat} {v : Value} {n : Nat} {xs : List Value}, 25 ≠ e → w.ownsRow B e size v n xs → (w.setCell ⟨b, j, none⟩ u).ownsRow B e size v n xs) ∧
    (∀ p : StepP, p.own w B → p.own (w.setCell ⟨b, j, none⟩ u) B) := by
  have hg := grown_set (w := w) b j u
  have hr : ∀ e : TypeId, 25 ≠ e → ∀ k, (some b : Option Nat) = some k → ∃ cs e', w.heap[k]? = some (.cells cs e') ∧ e' ≠ e := fun e he k hk => by injection hk with hk; subst hk; exact ⟨_, _, hb, he⟩
  exact ⟨fun he h => own_kept h hg (hr _ he), fun p hp => ⟨hp.1.kept hg (hr _ (by decide)), hp.2.kept hg (hr _ (by decide))⟩⟩
theorem wins_take {w : World} {a : Option Addr} {c : Nat} {L : List Fl.Win} (h : WinsA w a c L) (m : Nat) (hm : m ≤ L.length) : WinsA w a c (L.take m) := by
  refine ⟨by rw [List.length_take]; have := h.1; omega, h.2.1, fun i hi => ?_⟩
  rw [List.length_take] at hi
  obtain ⟨b, off, e, hb, hc⟩ := h.2.2 i (by omega)
  exact ⟨b, off, e, hb, by rw [List.getElem_take]; exact hc⟩
/-- A list of steps that the call makes, their lists where they were; beside it the boxes of the flow and of the result. -/
structure Fw (B : Nat) (q : FlowP) (a : Option Addr) (c : Nat) (P : List StepP) (W w : World) : Prop where
  srow : w.ownsRow B 55 7 (.slice a P.length c) P.length (stepRow P)
  fb : w.heap[B]? = some (flowBox q)
  rb : w.heap[B + 1]? = some (.cells #[.int .i64 0, .int .i64 0, .slice none 0 0, .slice none 0 0] 25)
  bel : Below B W w
theorem Fw.size {B : Nat} {q : FlowP} {a : Option Addr} {c : Nat} {P : List StepP} {W w : World} (h : Fw B q a c P W w) : B + 1 < w.heap.size := lt_of_block h.rb
theorem Fw.below {B : Nat} {q : FlowP} {a : Option Addr} {c : Nat} {P : List StepP} {W w w' : World} (h : Fw B q a c P W w) (hb : Below w.heap.size w w') : Fw B q a c P W w' :=
  ⟨own_below h.srow hb, (hb.block _ (lt_of_block h.fb)).trans h.fb, (hb.block _ (lt_of_block h.rb)).trans h.rb, h.bel.trans (hb.mono (Nat.le_of_lt (Nat.lt_of_le_of_lt (Nat.le_add_right _ _) h.size)))⟩
theorem Fw.pushed {B : Nat} {q : FlowP} {a : Option Addr} {c : Nat} {P : List StepP} {W w w2 : World} (h : Fw B q a c P W w) (p : StepP) {g cap : Nat}
    (hown : w2.ownsRow B 55 7 (.slice (some ⟨g, 0, none⟩) (P.length + 1) cap) (P.length + 1) (stepRow P ++ p.cells)) (hgrow : w.grownBy w2 (Value.slice a P.length c).ownBlock) : Fw B q (some ⟨g, 0, none⟩) cap (P ++ [p]) W w2 := by
  have keep : ∀ {b : Nat} {cs : Array Value} {e : TypeId}, 55 ≠ e → w.heap[b]? = some (.cells cs e) → w2.heap[b]? = some (.cells cs e) := fun {b cs e} he hbk => by
    rw [hgrow.block b (lt_of_block hbk) (fun e0 => by
      obtain ⟨cs, h3⟩ := own_block h.srow e0.symm
      rw [hbk] at h3; injection h3 with h3; injection h3 with _ h3; exact he h3.symm)]
    exact hbk
  have hlen : (P ++ [p]).length = P.length + 1 := by simp
  exact ⟨by simp only [hlen, stepRow_snoc]; exact hown, keep (by decide) h.fb, keep (by decide) h.rb, h.bel.trans ((Below.refl B w).grown hgrow (Nat.le_of_lt (Nat.lt_of_le_of_lt (Nat.le_add_right _ _) h.size)) (fun k hk => (h.srow.lt k hk).1))⟩
/-- What few holds once its list is stored. -/
structure Fx (B : Nat) (r : FlowP) (W w : World) : Prop where
  srow : w.ownsRow B 55 7 (.slice r.sa r.P.length r.sc) r.P.length (stepRow r.P)
  fb : w.heap[B]? = some (flowBox r)
  rb : w.heap[B + 1]? = some (.cells #[.int .i64 0, .int .i64 0, .slice none 0 0, .slice none 0 0] 25)
  bel : Below B W w
theorem Fx.win {B : Nat} {r : FlowP} {W w : World} (h : Fx B r W w) (va : Option Addr) (vc : Nat) (V : List Fl.Win) : Fx B { r with wa := va, wc := vc, W := V } W (w.setCell ⟨B, 3, none⟩ (.slice va V.length vc)) := by
  refine ⟨(fw_set (B := B) h.fb 3 _).1 (by decide) h.srow, ?_, ?_, h.bel.trans ((Below.refl B w).setCell (p := ⟨B, 3, none⟩) (Nat.le_refl B) _)⟩
  · rw [block_set h.fb]; rfl
  · rw [Below.heap_setCell _ _ _ _ (by show B + 1 ≠ B; omega)]; exact h.rb
theorem Fx.set4 {B : Nat} {r : FlowP} {W w : World} (h : Fx B r W w) (u0 u1 u2 u3 : Value) : (((((w.setCell ⟨B + 1, 0, none⟩ u0).setCell ⟨B + 1, 1, none⟩ u1).setCell ⟨B + 1, 2, none⟩ u2).setCell ⟨B + 1, 3, none⟩ u3).ownsRow B 55 7 (.slice r.sa r.P.length r.sc) r.P.length (stepRow r.P)) ∧
    Below B W ((((w.setCell ⟨B + 1, 0, none⟩ u0).setCell ⟨B + 1, 1, none⟩ u1).setCell ⟨B + 1, 2, none⟩ u2).setCell ⟨B + 1, 3, none⟩ u3) := by
  have h1 := block_set (o := 0) h.rb u0
  have h2 := block_set (o := 1) h1 u1
  have h3 := block_set (o := 2) h2 u2
  refine ⟨(fw_set (B := B) h3 3 _).1 (by decide) ((fw_set (B := B) h2 2 _).1 (by decide) ((fw_set (B := B) h1 1 _).1 (by decide) ((fw_set (B := B) h.rb 0 _).1 (by decide) h.srow))), ?_⟩
  exact h.bel.trans (((((Below.refl B w).setCell (p := ⟨B + 1, 0, none⟩) (Nat.le_add_right B 1) _).setCell (p := ⟨B + 1, 1, none⟩) (Nat.le_add_right B 1) _).setCell (p := ⟨B + 1, 2, none⟩) (Nat.le_add_right B 1) _).setCell (p := ⟨B + 1, 3, none⟩) (Nat.le_add_right B 1) _)
theorem Fw.stored {B : Nat} {q : FlowP} {a : Option Addr} {c : Nat} {P : List StepP} {W w : World} (h : Fw B q a c P W w) : Fx B ⟨q.least, q.most, a, c, P, q.wa, q.wc, q.W⟩ W (w.setCell ⟨B, 2, none⟩ (.slice a P.length c)) := by
  refine ⟨(fw_set (B := B) h.fb 2 _).1 (by decide) h.srow, ?_, ?_, h.bel.trans ((Below.refl B w).setCell (p := ⟨B, 2, none⟩) (Nat.le_refl B) _)⟩
  · rw [block_set h.fb]; rfl
  · rw [Below.heap_setCell _ _ _ _ (by show B + 1 ≠ B; omega)]; exact h.rb
/-- While a step is copied. -/
structure FwS (B : Nat) (q : FlowP) (a : Option Addr) (c : Nat) (P : List StepP) (W : World) (S : Nat) (cs : Array Value) (w : World) : Prop where
  base : Fw B q a c P W w
  box : w.heap[S]? = some (.cells cs 55)
  sep : ∀ k, (Value.slice a P.length c).ownBlock = some k → k ≠ S
  hS : B ≤ S
theorem FwS.new {B : Nat} {q : FlowP} {a : Option Addr} {c : Nat} {P : List StepP} {W w : World} (h : Fw B q a c P W w) (cs : Array Value) : FwS B q a c P W w.heap.size cs (w.alloc (.cells cs 55)) :=
  ⟨h.below (below_new _ _), heap_alloc_new _ _, fun k hk => Nat.ne_of_lt (h.srow.lt k hk).2, by have := h.size; omega⟩
theorem FwS.set {B : Nat} {q : FlowP} {a : Option Addr} {c : Nat} {P : List StepP} {W : World} {S : Nat} {cs : Array Value} {w : World} (h : FwS B q a c P W S cs w) (j : Nat) (u : Value) : FwS B q a c P W S (cs.setIfInBounds j u) (w.setCell ⟨S, j, none⟩ u) := by
  have keep : ∀ {k : Nat} {cs : Array Value} {e : TypeId}, 55 ≠ e → w.heap[k]? = some (.cells cs e) → (w.setCell ⟨S, j, none⟩ u).heap[k]? = some (.cells cs e) := fun {k cs e} he hk => by
    have hb := h.box
    rw [Below.heap_setCell _ _ _ _ (by
      intro e0; simp only at e0; subst e0
      rw [hb] at hk; injection hk with hk; injection hk with _ hk; exact he hk)]
    exact hk
  refine ⟨⟨h.base.srow.kept (grown_set (w := w) S j u) ?_, keep (by decide) h.base.fb, keep (by decide) h.base.rb, h.base.bel.trans ((Below.refl B w).setCell (p := ⟨S, j, none⟩) h.hS u)⟩, block_set h.box u, h.sep, h.hS⟩
  cases hv : (Value.slice a P.length c).ownBlock with
  | none => exact .inl rfl
  | some k => exact .inr (by intro e; injection e with e; exact h.sep k hv e)
theorem IntA.take {w : World} {a : Option Addr} {c : Nat} {L : List Int} (h : IntA w a c L) (m : Nat) : IntA w a c (L.take m) := by
  refine ⟨by rw [List.length_take]; have := h.1; omega, h.2.1, fun i hi => ?_⟩
  rw [List.length_take] at hi
  obtain ⟨b, off, e, hb, hc⟩ := h.2.2 i (by omega)
  exact ⟨b, off, e, hb, by rw [List.getElem_take]; exact hc⟩
theorem stepsA_row {w : World} {B : Nat} {a : Option Addr} {c : Nat} {P : List StepP} (h : w.ownsRow B 55 7 (.slice a P.length c) P.length (stepRow P)) (hp : ∀ p ∈ P, p.ok w) : StepsA w a c P := by
  obtain ⟨a', c', e, h1, h2, h3⟩ := own_slice h
  injection e with e1 e2 e3; subst e1; subst e3
  refine ⟨h1, h2, fun i hi => ?_⟩
  obtain ⟨g, rfl, hg, hc⟩ := h3 (by omega)
  have at_ : ∀ j v, j < 7 → (P[i].cells)[j]? = some v → w.cell? ⟨g, 0 + (i * 7 + j), none⟩ = some v := fun j v hj hv => hc _ _ (by
    unfold stepRow; rw [flat_at StepP.cells 7 (fun _ => rfl) P i j hi hj]; exact hv)
  have z : ∀ j, 0 + (i * 7 + j) = 0 + i * 7 + j := fun j => by omega
  refine ⟨g, 0, rfl, hg, ⟨?_, ?_, ?_, ?_, ?_, ?_, ?_⟩, hp _ (List.getElem_mem hi)⟩
  · have := at_ 0 _ (by decide) rfl; simpa using this
  · have := at_ 1 _ (by decide) rfl; rwa [z] at this
  · have := at_ 2 _ (by decide) rfl; rwa [z] at this
  · have := at_ 3 _ (by decide) rfl; rwa [z] at this
  · have := at_ 4 _ (by decide) rfl; rwa [z] at this
  · have := at_ 5 _ (by decide) rfl; rwa [z] at this
  · have := at_ 6 _ (by decide) rfl; rwa [z] at this
theorem min_take (L : List Int) (n : Nat) : (min (L.length : Int) (n : Int)).toNat = (L.take n).length := by rw [List.length_take]; omega
theorem minw_take (L : List Fl.Win) (n : Nat) : (min (L.length : Int) (n : Int)).toNat = (L.take n).length := by rw [List.length_take]; omega
def ShortS (s : Fl.Step) : Prop := s.tools.length ≤ 10 ∧ s.next.length ≤ 10
/-- What few leaves: short lists, integers that fit. -/
def Short (r : FlowP) : Prop := r.P.length ≤ 42 ∧ r.W.length ≤ 22 ∧ (∀ p ∈ r.P, ShortS p.s) ∧ FlowFits r

set_option maxRecDepth 100000 in
set_option maxHeartbeats 4000000 in
theorem few_any (q : FlowP) (w : World) (hq : q.ok w) (hf : FlowFits q) :
    Calls Tryz.prog 14 #[q.v] w fun e w' => ∃ r : FlowP, e = .returned r.v ∧ r.ok w' ∧ Short r ∧ Below w.heap.size w w' := by
  have HQ := Lib.hid hq; have HF := Lib.hid hf
  clear hq hf
  go_enter Tryz.func14, Tryz.ntmps14
  go_wp2_with fail
  have T0 : Hid (Fw w.heap.size q none 0 [] w ((w.alloc (flowBox q)).alloc (.cells #[.int .i64 0, .int .i64 0, .slice none 0 0, .slice none 0 0] 25))) := Lib.hid (by
    refine ⟨World.ownsRow_nil _ _ _ _, heap_alloc_old _ _ _ _ (heap_alloc_new _ _), ?_, below_step (below_new _ _) (below_new _ _)⟩
    have := heap_alloc_new (w.alloc (flowBox q)) (.cells #[.int .i64 0, .int .i64 0, .slice none 0 0, .slice none 0 0] 25)
    simpa using this)
  generalize (w.alloc (flowBox q)).alloc (.cells #[.int .i64 0, .int .i64 0, .slice none 0 0, .slice none 0 0] 25) = wa at *
  go_loopg [3, 4] (min q.P.length 42) (fun g l i wr => ∃ (k : Nat) (a : Option Addr) (c : Nat) (P : List StepP), k ≤ q.P.length ∧ k ≤ 42 ∧ g = min q.P.length 42 - k ∧ l = .slice a P.length c ∧ i = .int .i64 (k : Int) ∧ Hid (P.length = k ∧ Fw w.heap.size q a c P w wr ∧ ∀ p ∈ P, p.ok w ∧ ShortS p.s ∧ StepFits p.s))
  case atStart => exact ⟨0, none, 0, [], by omega, by omega, by omega, rfl, rfl, Lib.hid ⟨rfl, T0.out, fun p hp => by cases hp⟩⟩
  case round =>
    obtain ⟨k, a, c, P, hk, hk42, rfl, rfl, rfl, HR⟩ := hrel
    have f2 := block_cell HR.out.2.1.fb 2 _ rfl
    by_cases hlt : k < q.P.length
    · by_cases hlt2 : k < 42
      · obtain ⟨b, off, e5, hb, hA, hok⟩ := (HQ.out.1.below HR.out.2.1.bel).2.2 k hlt
        obtain ⟨_, _, _, _, _, hokw⟩ := HQ.out.1.2.2 k hlt
        have hft := HF.out.2.2.1 _ (List.getElem_mem hlt)
        clear hok
        generalize q.P[k] = p at hA hokw hft
        obtain ⟨⟨rc, tl, mn, mx, nx, bk, lm⟩, ta, tc, na, nc⟩ := p
        obtain ⟨c0, c1, c2, c3, c4, c5, c6⟩ := hA
        rw [e5] at f2
        have htc := hokw.1.1
        have hnc := hokw.2.1
        have HOK := Lib.hid hokw; have HFT := Lib.hid hft
        simp only at htc hnc
        clear hokw hft
        go_upto_region 6 with (fail)
        have S0 := Lib.hid (FwS.new HR.out.2.1 #[.int .i64 rc, .slice ta tl.length tc, .int .i64 mn, .int .i64 mx, .slice na nx.length nc, .int .i64 bk, .int .i64 lm])
        clear c0 c1 c2 c3 c4 c5 c6 f2 hb e5
        generalize wr.alloc (.cells #[.int .i64 rc, .slice ta tl.length tc, .int .i64 mn, .int .i64 mx, .slice na nx.length nc, .int .i64 bk, .int .i64 lm] 55) = ws at *
        generalize wr.heap.size = S at *
        have m1 : (min (tl.length : Int) 10).toNat = (tl.take 10).length := min_take tl 10
        have m2 : (min (nx.length : Int) 10).toNat = (nx.take 10).length := min_take nx 10
        have l1 : (tl.take 10).length ≤ tc := by rw [List.length_take]; omega
        have l2 : (nx.take 10).length ≤ nc := by rw [List.length_take]; omega
        have hs10 : ShortS ⟨rc, tl.take 10, mn, mx, nx.take 10, bk, lm⟩ := ⟨by simp only [List.length_take]; omega, by simp only [List.length_take]; omega⟩
        have hok' : StepP.ok w ⟨⟨rc, tl.take 10, mn, mx, nx.take 10, bk, lm⟩, ta, tc, na, nc⟩ := ⟨HOK.out.1.take 10, HOK.out.2.take 10⟩
        have hft' : StepFits ⟨rc, tl.take 10, mn, mx, nx.take 10, bk, lm⟩ := by
          obtain ⟨y0, y1, y2, y3, y4, y5, y6⟩ := HFT.out
          exact ⟨y0, fun x hx => y1 x (List.mem_of_mem_take hx), y2, y3, fun x hx => y4 x (List.mem_of_mem_take hx), y5, y6⟩
        have HPK := Lib.hid (And.intro hok' (And.intro hs10 hft'))
        clear hs10 hok' hft' HOK HFT
        generalize tl.take 10 = tl' at *
        generalize nx.take 10 = nx' at *
        have b1 := block_cell S0.out.box 1 _ rfl
        have z1 := box_fz S0.out.box 1
        have hlS := lt_of_block S0.out.box
        go_cut [29] (fun s29 wx => s29 = .pointer (some ⟨S, 1, none⟩) ∧ wx = ws.setCell ⟨S, 1, none⟩ (.slice ta tl'.length tc))
        case first =>
          cases ta with
          | none =>
            go_wp2_with fail
            go_meet
            exact ⟨rfl, rfl⟩
          | some tad =>
            go_wp2_with fail
            go_meet
            exact ⟨rfl, rfl⟩
        case rest =>
          obtain ⟨rfl, rfl⟩ := hcut
          have S1 := Lib.hid (S0.out.set 1 (.slice ta tl'.length tc))
          clear b1 z1 hlS S0
          generalize ws.setCell ⟨S, 1, none⟩ (.slice ta tl'.length tc) = wt at *
          have b4 := block_cell S1.out.box 4 _ rfl
          have z4 := box_fz S1.out.box 4
          have hlS := lt_of_block S1.out.box
          go_upto_region 7 with (fail)
          go_cut [37] (fun s37 wx => s37 = .pointer (some ⟨S, 4, none⟩) ∧ wx = wt.setCell ⟨S, 4, none⟩ (.slice na nx'.length nc))
          case first =>
            cases na with
            | none =>
              go_wp2_with fail
              go_meet
              exact ⟨rfl, rfl⟩
            | some nad =>
              go_wp2_with fail
              go_meet
              exact ⟨rfl, rfl⟩
          case rest =>
            obtain ⟨rfl, rfl⟩ := hcut
            have S2 := Lib.hid (S1.out.set 4 (.slice na nx'.length nc))
            clear b4 z4 hlS S1
            generalize wt.setCell ⟨S, 4, none⟩ (.slice na nx'.length nc) = wu at *
            go_upto_region 8 with (fail)
            have HWA := Lib.hid (below_new wu (.cells #[.int .i64 rc, .slice ta tl'.length tc, .int .i64 mn, .int .i64 mx, .slice na nx'.length nc, .int .i64 bk, .int .i64 lm] 55))
            have BB := Lib.hid (S2.out.base.below HWA.out)
            have HNW : Hid (∀ j u, ([.int .i64 rc, .slice ta tl'.length tc, .int .i64 mn, .int .i64 mx, .slice na nx'.length nc, .int .i64 bk, .int .i64 lm])[j]? = some u → (wu.alloc (.cells #[.int .i64 rc, .slice ta tl'.length tc, .int .i64 mn, .int .i64 mx, .slice na nx'.length nc, .int .i64 bk, .int .i64 lm] 55)).cell? ((⟨wu.heap.size, 0, none⟩ : Addr).add j) = some u) := Lib.hid (World.news_of_block (cs := #[.int .i64 rc, .slice ta tl'.length tc, .int .i64 mn, .int .i64 mx, .slice na nx'.length nc, .int .i64 bk, .int .i64 lm]) (t := 55) (fr := (0, 0)) (heap_alloc_new wu _))
            have HPu : Hid (∀ g cap w2, w2.ownsRow w.heap.size 55 7 (.slice (some ⟨g, 0, none⟩) (P.length + 1) cap) (P.length + 1) (stepRow P ++ [.int .i64 rc, .slice ta tl'.length tc, .int .i64 mn, .int .i64 mx, .slice na nx'.length nc, .int .i64 bk, .int .i64 lm]) → (wu.alloc (.cells #[.int .i64 rc, .slice ta tl'.length tc, .int .i64 mn, .int .i64 mx, .slice na nx'.length nc, .int .i64 bk, .int .i64 lm] 55)).grownBy w2 (Value.slice a P.length c).ownBlock → _) := Lib.hid fun g cap w2 h1 h2 => BB.out.pushed (g := g) (cap := cap) (w2 := w2) ⟨⟨rc, tl', mn, mx, nx', bk, lm⟩, ta, tc, na, nc⟩ h1 h2
            have b0 := block_cell S2.out.box 0 _ rfl
            have b1 := block_cell S2.out.box 1 _ rfl
            have b2 := block_cell S2.out.box 2 _ rfl
            have b3 := block_cell S2.out.box 3 _ rfl
            have b4 := block_cell S2.out.box 4 _ rfl
            have b5 := block_cell S2.out.box 5 _ rfl
            have b6 := block_cell S2.out.box 6 _ rfl
            have hBs := S2.out.base.size
            have hPk : P.length ≤ 42 := by have := HR.out.1; omega
            obtain ⟨i0, hi, hz0, hz1, hz2⟩ := info_parts info_step
            go_wp2_with (at_builtin; refine wpList_append_lies _ rfl _ _ _ rfl w.heap.size 55 i0 _ 7 88 Tryz.underlying22 hi hz0 hz1 hz2 rfl (by decide) (.slice a P.length c) P.length (stepRow P) rfl BB.out.srow ⟨wu.heap.size, 0, none⟩ 1 1 [.int .i64 rc, .slice ta tl'.length tc, .int .i64 mn, .int .i64 mx, .slice na nx'.length nc, .int .i64 bk, .int .i64 lm] rfl rfl HNW.out (by simp [Value.oneCell']) (by decide) ?c1 ?c2 ?c3 (wu.heap.size + 1) (by simp) ?_)
            case c1 => unfold maxLen; omega
            case c2 => omega
            case c3 => first | omega | (simp; omega)
            intro g cap w5 hown hgrow hat hl2
            have FF := Lib.hid (HPu.out g cap w5 hown hgrow)
            clear hown hgrow hat b0 b1 b2 b3 b4 b5 b6
            have e9 : IntKind.i64.wrap ((k : Int) + 1) = (k : Int) + 1 := IntWalk.i64_in _ (by omega)
            go_wp2_with fail
            go_roundg (min q.P.length 42 - (k + 1))
            case rel =>
              obtain ⟨y1, y2, y3⟩ := HR.out
              exact ⟨k + 1, some ⟨g, 0, none⟩, cap, P ++ [⟨⟨rc, tl', mn, mx, nx', bk, lm⟩, ta, tc, na, nc⟩], hlt, hlt2, rfl, by simp, by go_num, Lib.hid ⟨by simp [y1], FF.out, fun x hx => by
                rcases List.mem_append.1 hx with hx | hx
                · exact y3 x hx
                · rw [List.mem_singleton] at hx; subst hx; exact HPK.out⟩⟩
            case measure => omega
      · have hk' : ¬ (k : Int) < 42 := by omega
        have HFin := Lib.hid (show P.length ≤ 42 by have := HR.out.1; omega)
        go_upto_region 9 with (fail)
        have w2 := block_cell HR.out.2.1.fb 2 _ rfl
        have z2 := box_fz HR.out.2.1.fb 2
        have hlB := lt_of_block HR.out.2.1.fb
        clear f2
        go_upto_region 10 with (fail)
        have FS := Lib.hid (HR.out.2.1.stored)
        have HPP := Lib.hid HR.out.2.2
        clear w2 z2 hlB T0 HR
        generalize wr.setCell ⟨w.heap.size, 2, none⟩ (.slice a P.length c) = ws at *
        have m1 : (min (q.W.length : Int) 22).toNat = (q.W.take 22).length := minw_take q.W 22
        have l1 : (q.W.take 22).length ≤ q.wc := by rw [List.length_take]; have := HQ.out.2.1; omega
        have HW22 := Lib.hid (show (q.W.take 22).length ≤ 22 by rw [List.length_take]; omega)
        have HWT := wins_take HQ.out.2 (q.W.take 22).length (by rw [List.length_take]; omega)
        rw [show q.W.take (q.W.take 22).length = q.W.take 22 by rw [List.length_take, List.take_eq_take_iff]; omega] at HWT
        have HWT := Lib.hid HWT
        have HWM : Hid (∀ v ∈ q.W.take 22, WinFits v) := Lib.hid fun v hv => HF.out.2.2.2 v (List.mem_of_mem_take hv)
        have HLM : Hid (Fits q.least ∧ Fits q.most) := Lib.hid ⟨HF.out.1, HF.out.2.1⟩
        have g3 := block_cell FS.out.fb 3 _ rfl
        have y3 := box_fz FS.out.fb 3
        have hlB := lt_of_block FS.out.fb
        clear HQ HF
        generalize q.W.take 22 = V at *
        obtain ⟨lo, hi0, sa0, sc0, P0, va, vc, W0⟩ := q
        simp only at g3 m1 l1
        go_cut [51] (fun s51 wx => s51 = .pointer (some ⟨w.heap.size, 3, none⟩) ∧ wx = ws.setCell ⟨w.heap.size, 3, none⟩ (.slice va V.length vc))
        case first =>
          cases va with
          | none =>
            go_wp2_with fail
            go_meet
            exact ⟨rfl, rfl⟩
          | some vad =>
            go_wp2_with fail
            go_meet
            exact ⟨rfl, rfl⟩
        case rest =>
          obtain ⟨rfl, rfl⟩ := hcut
          have FX := Lib.hid (FS.out.win va vc V)
          clear g3 y3 hlB FS m1 l1
          generalize ws.setCell ⟨w.heap.size, 3, none⟩ (.slice va V.length vc) = wx at *
          have g0 := block_cell FX.out.fb 0 _ rfl
          have g1 := block_cell FX.out.fb 1 _ rfl
          have g2 := block_cell FX.out.fb 2 _ rfl
          have g3 := block_cell FX.out.fb 3 _ rfl
          have r0 := block_cell FX.out.rb 0 _ rfl
          have r1 := block_cell FX.out.rb 1 _ rfl
          have r2 := block_cell FX.out.rb 2 _ rfl
          have r3 := block_cell FX.out.rb 3 _ rfl
          have z0 := box_fz FX.out.rb 0
          have z1 := box_fz FX.out.rb 1
          have z2 := box_fz FX.out.rb 2
          have z3 := box_fz FX.out.rb 3
          have hlR := lt_of_block FX.out.rb
          go_wp2_with fail
          clear g0 g1 g2 g3 r0 r1 r2 r3 z0 z1 z2 z3 hlR
          have HD4 := Lib.hid (FX.out.set4 (.int .i64 lo) (.int .i64 hi0) (.slice a P.length c) (.slice va V.length vc))
          have rb := block_set (block_set (block_set (block_set FX.out.rb (o := 0) (.int .i64 lo)) (o := 1) (.int .i64 hi0)) (o := 2) (.slice a P.length c)) (o := 3) (.slice va V.length vc)
          generalize (((wx.setCell ⟨w.heap.size + 1, 0, none⟩ (.int .i64 lo)).setCell ⟨w.heap.size + 1, 1, none⟩ (.int .i64 hi0)).setCell ⟨w.heap.size + 1, 2, none⟩ (.slice a P.length c)).setCell ⟨w.heap.size + 1, 3, none⟩ (.slice va V.length vc) = U at *
          have r0 := block_cell rb 0 (.int .i64 lo) rfl
          have r1 := block_cell rb 1 (.int .i64 hi0) rfl
          have r2 := block_cell rb 2 (.slice a P.length c) rfl
          have r3 := block_cell rb 3 (.slice va V.length vc) rfl
          clear rb
          refine bodyPost_ret (v := FlowP.v ⟨lo, hi0, a, c, P, va, vc, V⟩) (by simp [results, Tryz.results14, go_sem, r0, r1, r2, r3]) rfl ?_
          exact ⟨⟨lo, hi0, a, c, P, va, vc, V⟩, rfl, ⟨stepsA_row HD4.out.1 (fun p hp => (HPP.out p hp).1.below HD4.out.2), HWT.out.below HD4.out.2⟩, ⟨HFin.out, HW22.out, fun p hp => (HPP.out p hp).2.1, HLM.out.1, HLM.out.2, fun p hp => (HPP.out p hp).2.2, HWM.out⟩, HD4.out.2⟩
    · have HFin := Lib.hid (show P.length ≤ 42 by have := HR.out.1; omega)
      go_upto_region 9 with (fail)
      have w2 := block_cell HR.out.2.1.fb 2 _ rfl
      have z2 := box_fz HR.out.2.1.fb 2
      have hlB := lt_of_block HR.out.2.1.fb
      clear f2
      go_upto_region 10 with (fail)
      have FS := Lib.hid (HR.out.2.1.stored)
      have HPP := Lib.hid HR.out.2.2
      clear w2 z2 hlB T0 HR
      generalize wr.setCell ⟨w.heap.size, 2, none⟩ (.slice a P.length c) = ws at *
      have m1 : (min (q.W.length : Int) 22).toNat = (q.W.take 22).length := minw_take q.W 22
      have l1 : (q.W.take 22).length ≤ q.wc := by rw [List.length_take]; have := HQ.out.2.1; omega
      have HW22 := Lib.hid (show (q.W.take 22).length ≤ 22 by rw [List.length_take]; omega)
      have HWT := wins_take HQ.out.2 (q.W.take 22).length (by rw [List.length_take]; omega)
      rw [show q.W.take (q.W.take 22).length = q.W.take 22 by rw [List.length_take, List.take_eq_take_iff]; omega] at HWT
      have HWT := Lib.hid HWT
      have HWM : Hid (∀ v ∈ q.W.take 22, WinFits v) := Lib.hid fun v hv => HF.out.2.2.2 v (List.mem_of_mem_take hv)
      have HLM : Hid (Fits q.least ∧ Fits q.most) := Lib.hid ⟨HF.out.1, HF.out.2.1⟩
      have g3 := block_cell FS.out.fb 3 _ rfl
      have y3 := box_fz FS.out.fb 3
      have hlB := lt_of_block FS.out.fb
      clear HQ HF
      generalize q.W.take 22 = V at *
      obtain ⟨lo, hi0, sa0, sc0, P0, va, vc, W0⟩ := q
      simp only at g3 m1 l1
      go_cut [51] (fun s51 wx => s51 = .pointer (some ⟨w.heap.size, 3, none⟩) ∧ wx = ws.setCell ⟨w.heap.size, 3, none⟩ (.slice va V.length vc))
      case first =>
        cases va with
        | none =>
          go_wp2_with fail
          go_meet
          exact ⟨rfl, rfl⟩
        | some vad =>
          go_wp2_with fail
          go_meet
          exact ⟨rfl, rfl⟩
      case rest =>
        obtain ⟨rfl, rfl⟩ := hcut
        have FX := Lib.hid (FS.out.win va vc V)
        clear g3 y3 hlB FS m1 l1
        generalize ws.setCell ⟨w.heap.size, 3, none⟩ (.slice va V.length vc) = wx at *
        have g0 := block_cell FX.out.fb 0 _ rfl
        have g1 := block_cell FX.out.fb 1 _ rfl
        have g2 := block_cell FX.out.fb 2 _ rfl
        have g3 := block_cell FX.out.fb 3 _ rfl
        have r0 := block_cell FX.out.rb 0 _ rfl
        have r1 := block_cell FX.out.rb 1 _ rfl
        have r2 := block_cell FX.out.rb 2 _ rfl
        have r3 := block_cell FX.out.rb 3 _ rfl
        have z0 := box_fz FX.out.rb 0
        have z1 := box_fz FX.out.rb 1
        have z2 := box_fz FX.out.rb 2
        have z3 := box_fz FX.out.rb 3
        have hlR := lt_of_block FX.out.rb
        go_wp2_with fail
        clear g0 g1 g2 g3 r0 r1 r2 r3 z0 z1 z2 z3 hlR
        have HD4 := Lib.hid (FX.out.set4 (.int .i64 lo) (.int .i64 hi0) (.slice a P.length c) (.slice va V.length vc))
        have rb := block_set (block_set (block_set (block_set FX.out.rb (o := 0) (.int .i64 lo)) (o := 1) (.int .i64 hi0)) (o := 2) (.slice a P.length c)) (o := 3) (.slice va V.length vc)
        generalize (((wx.setCell ⟨w.heap.size + 1, 0, none⟩ (.int .i64 lo)).setCell ⟨w.heap.size + 1, 1, none⟩ (.int .i64 hi0)).setCell ⟨w.heap.size + 1, 2, none⟩ (.slice a P.length c)).setCell ⟨w.heap.size + 1, 3, none⟩ (.slice va V.length vc) = U at *
        have r0 := block_cell rb 0 (.int .i64 lo) rfl
        have r1 := block_cell rb 1 (.int .i64 hi0) rfl
        have r2 := block_cell rb 2 (.slice a P.length c) rfl
        have r3 := block_cell rb 3 (.slice va V.length vc) rfl
        clear rb
        refine bodyPost_ret (v := FlowP.v ⟨lo, hi0, a, c, P, va, vc, V⟩) (by simp [results, Tryz.results14, go_sem, r0, r1, r2, r3]) rfl ?_
        exact ⟨⟨lo, hi0, a, c, P, va, vc, V⟩, rfl, ⟨stepsA_row HD4.out.1 (fun p hp => (HPP.out p hp).1.below HD4.out.2), HWT.out.below HD4.out.2⟩, ⟨HFin.out, HW22.out, fun p hp => (HPP.out p hp).2.1, HLM.out.1, HLM.out.2, fun p hp => (HPP.out p hp).2.2, HWM.out⟩, HD4.out.2⟩
end Go.Proofs.YtblnfcffalaeaaaGreatDoor
