/-
  Contract of bent: some flow in memory; nothing older is touched.
-/
import Derived.Test.YtblnfcffalaeaaaGreatDoorBf
namespace Go.Proofs.YtblnfcffalaeaaaGreatDoor
open Go.RowKit Go.Shelf

set_option maxRecDepth 100000 in
set_option maxHeartbeats 4000000 in
theorem bent_any (q : FlowP) (h0 h1 h2 : Int) (w : World) (hq : q.ok w) (hv : Fl.valid q.f = true) (f0 : Fits h0) (f1 : Fits h1) (f2 : Fits h2) :
    Calls Tryz.prog 15 #[q.v, .agg #[.int .i64 h0, .int .i64 h1, .int .i64 h2]] w fun e w' => ∃ r : FlowP, e = .returned r.v ∧ r.ok w' ∧ Below w.heap.size w w' := by
  have HQ := Lib.hid hq; have HV := Lib.hid (Fl.valid_iff.1 hv)
  have hst : ∀ p ∈ q.P, Fl.StepOk q.P.length p.s := fun p hp => by
    have := HV.out.steps p.s (List.mem_map.2 ⟨p, hp, rfl⟩); rw [show q.f.steps.length = q.P.length by simp [FlowP.f]] at this; exact this
  have hle : q.P.length ≤ 40 := by have := HV.out.len; rw [show q.f.steps.length = q.P.length by simp [FlowP.f]] at this; exact this
  have HST := Lib.hid hst
  clear hq hv hst
  go_enter Tryz.func15, Tryz.ntmps15
  go_wp2_with fail
  have T0 : Hid (Bt w.heap.size q h0 h1 h2 none 0 [] w (((w.alloc (flowBox q)).alloc (.cells #[.int .i64 h0, .int .i64 h1, .int .i64 h2] 28)).alloc (.cells #[.int .i64 0, .int .i64 0, .slice none 0 0, .slice none 0 0] 25))) := Lib.hid (by
    refine ⟨World.ownsRow_nil _ _ _ _, (fun p hp => by cases hp), heap_alloc_old _ _ _ _ (heap_alloc_old _ _ _ _ (heap_alloc_new _ _)), ?_, ?_, below_step (below_step (below_new _ _) (below_new _ _)) (below_new _ _)⟩
    · have := heap_alloc_old ((w.alloc (flowBox q)).alloc (.cells #[.int .i64 h0, .int .i64 h1, .int .i64 h2] 28)) (.cells #[.int .i64 0, .int .i64 0, .slice none 0 0, .slice none 0 0] 25) _ _ (heap_alloc_new (w.alloc (flowBox q)) (.cells #[.int .i64 h0, .int .i64 h1, .int .i64 h2] 28))
      simpa using this
    · have := heap_alloc_new ((w.alloc (flowBox q)).alloc (.cells #[.int .i64 h0, .int .i64 h1, .int .i64 h2] 28)) (.cells #[.int .i64 0, .int .i64 0, .slice none 0 0, .slice none 0 0] 25)
      simpa using this)
  generalize (((w.alloc (flowBox q)).alloc (.cells #[.int .i64 h0, .int .i64 h1, .int .i64 h2] 28)).alloc (.cells #[.int .i64 0, .int .i64 0, .slice none 0 0, .slice none 0 0] 25)) = wa at *
  go_loopg [5, 6] (q.P.length) (fun g l i wr => ∃ (k : Nat) (a : Option Addr) (c : Nat) (P : List StepP), k ≤ q.P.length ∧ g = q.P.length - k ∧ l = .slice a P.length c ∧ i = .int .i64 (k : Int) ∧ Hid (P.length = k ∧ Bt w.heap.size q h0 h1 h2 a c P w wr ∧ (∀ p ∈ P, 0 < p.s.tools.length ∧ p.s.tools.length ≤ 8 ∧ p.s.next.length ≤ 4) ∧ Apart P))
  case atStart => exact ⟨0, none, 0, [], by omega, rfl, rfl, rfl, Lib.hid ⟨rfl, T0.out, (fun p hp => by cases hp), apart_nil⟩⟩
  case round =>
    obtain ⟨k, a, c, P, hk, rfl, rfl, rfl, HR⟩ := hrel
    have f2 := block_cell HR.out.2.1.fb 2 _ rfl
    by_cases hlt : k < q.P.length
    · obtain ⟨b, off, e5, hb, hA, hok⟩ := (HQ.out.1.below HR.out.2.1.bel).2.2 k hlt
      obtain ⟨_, _, _, _, _, hokw⟩ := HQ.out.1.2.2 k hlt
      have hpos := HST.out q.P[k] (List.getElem_mem hlt)
      clear hok
      generalize q.P[k] = p at hA hokw hpos
      obtain ⟨⟨rc, tl, mn, mx, nx, bk, lm⟩, ta, tc, na, nc⟩ := p
      obtain ⟨c0, c1, c2, c3, c4, c5, c6⟩ := hA
      rw [e5] at f2
      have HOK := Lib.hid hokw; have HPOS := Lib.hid hpos
      clear hokw hpos
      go_upto_region 6 with (fail)
      have A0 : Hid (∀ x ∈ P.flatMap lists2, ∀ k, x.ownBlock = some k → k < wr.heap.size) := Lib.hid (Bt.lists_lt HR.out.2.1)
      have S0 := Lib.hid (BtS.new HR.out.2.1 #[.int .i64 rc, .slice ta tl.length tc, .int .i64 mn, .int .i64 mx, .slice na nx.length nc, .int .i64 bk, .int .i64 lm])
      clear c0 c1 c2 c3 c4 c5 c6 f2 hb e5
      generalize wr.alloc (.cells #[.int .i64 rc, .slice ta tl.length tc, .int .i64 mn, .int .i64 mx, .slice na nx.length nc, .int .i64 bk, .int .i64 lm] 55) = ws at *
      generalize wr.heap.size = S at *
      obtain ⟨v1, w1, hr1, ho1, hb1⟩ := copy_ints ws 50 ta tc tl (HOK.out.1.below S0.out.base.bel) (Nat.le_trans HPOS.out.tools.2 (by decide))
      obtain ⟨ta', tc', rfl, -, -⟩ := ho1.arg
      have HR1 := Lib.hid hr1
      have A1 : Hid (∀ k, (Value.slice ta' tl.length tc').ownBlock = some k → S ≤ k ∧ k < w1.heap.size) := Lib.hid fun k hk => ⟨Nat.le_trans (Nat.le_of_lt (lt_of_block S0.out.box)) (ho1.lt k hk).1, (ho1.lt k hk).2⟩
      have hS1 := Nat.le_trans (Nat.le_of_lt (lt_of_block S0.out.box)) hb1.size
      have S1 := Lib.hid ((S0.out.below hb1).add (ho1.mono (Nat.le_trans S0.out.hS (Nat.le_of_lt (lt_of_block S0.out.box)))))
      have b1 := block_cell S0.out.box 1 _ rfl
      have hlS := lt_of_block S0.out.box
      clear hr1 ho1 hb1
      have b1' := block_cell S1.out.box 1 _ rfl
      have z1 := box_fz S1.out.box 1
      go_upto_region 7 with (at_builtin; refine Lib.wpList_append_run_sl _ rfl _ _ _ rfl _ _ rfl rfl HR1.out ?_)
      have S2 := Lib.hid (S1.out.set 1 (.slice ta' tl.length tc'))
      have Z1 : Hid ((w1.setCell ⟨S, 1, none⟩ (.slice ta' tl.length tc')).heap.size = w1.heap.size) := Lib.hid (by simp [World.setCell])
      clear b1 b1' z1 hlS HR1
      generalize w1.setCell ⟨S, 1, none⟩ (.slice ta' tl.length tc') = wt at *
      obtain ⟨v2, w2, hr2, ho2, hb2⟩ := copy_ints wt 50 na nc nx (HOK.out.2.below S2.out.base.bel) (Nat.le_trans HPOS.out.next (by decide))
      obtain ⟨na', nc', rfl, -, -⟩ := ho2.arg
      have HR2 := Lib.hid hr2
      have A2 : Hid (∀ k, (Value.slice na' nx.length nc').ownBlock = some k → w1.heap.size ≤ k) := Lib.hid fun k hk => by have := (ho2.lt k hk).1; rw [Z1.out] at this; exact this
      have S3 := Lib.hid ((S2.out.below hb2).add (ho2.mono (Nat.le_trans S2.out.hS (Nat.le_of_lt (lt_of_block S2.out.box)))))
      have b4 := block_cell S2.out.box 4 _ rfl
      have hlS := lt_of_block S2.out.box
      have b4' := block_cell S3.out.box 4 _ rfl
      have z4 := box_fz S3.out.box 4
      clear hr2 ho2 hb2
      go_upto_region 8 with (at_builtin; refine Lib.wpList_append_run_sl _ rfl _ _ _ rfl _ _ rfl rfl HR2.out ?_)
      have S4 := Lib.hid (S3.out.set 4 (.slice na' nx.length nc'))
      clear b4 b4' z4 hlS HR2 S0 S1 S2 S3
      generalize w2.setCell ⟨S, 4, none⟩ (.slice na' nx.length nc') = wu at *
      obtain ⟨p, hpp⟩ : ∃ p : StepP, p = ⟨⟨rc, tl, mn, mx, nx, bk, lm⟩, ta', tc', na', nc'⟩ := ⟨_, rfl⟩
      have HP : Hid (p.own wu w.heap.size) := Lib.hid (by rw [hpp]; exact ⟨S4.out.own (.slice ta' tl.length tc', tl) (by simp), S4.out.own (.slice na' nx.length nc', nx) (by simp)⟩)
      have HPC : Hid (p.cells = [.int .i64 rc, .slice ta' tl.length tc', .int .i64 mn, .int .i64 mx, .slice na' nx.length nc', .int .i64 bk, .int .i64 lm]) := Lib.hid (by cases hpp; rfl)
      have HPT : Hid (0 < p.s.tools.length ∧ p.s.tools.length ≤ 8 ∧ p.s.next.length ≤ 4) := Lib.hid (by rw [hpp]; exact ⟨HPOS.out.tools.1, HPOS.out.tools.2, HPOS.out.next⟩)
      have HAP : Hid (Apart (P ++ [p])) := Lib.hid (by rw [hpp]; exact HR.out.2.2.2.snoc A0.out A1.out A2.out hS1)
      clear hpp A0 A1 A2 Z1 hS1
      have HWA := Lib.hid (below_new wu (.cells #[.int .i64 rc, .slice ta' tl.length tc', .int .i64 mn, .int .i64 mx, .slice na' nx.length nc', .int .i64 bk, .int .i64 lm] 55))
      have BB := Lib.hid (S4.out.base.below HWA.out)
      have HNW : Hid (∀ j u, ([.int .i64 rc, .slice ta' tl.length tc', .int .i64 mn, .int .i64 mx, .slice na' nx.length nc', .int .i64 bk, .int .i64 lm])[j]? = some u → (wu.alloc (.cells #[.int .i64 rc, .slice ta' tl.length tc', .int .i64 mn, .int .i64 mx, .slice na' nx.length nc', .int .i64 bk, .int .i64 lm] 55)).cell? ((⟨wu.heap.size, 0, none⟩ : Addr).add j) = some u) := Lib.hid (World.news_of_block (cs := #[.int .i64 rc, .slice ta' tl.length tc', .int .i64 mn, .int .i64 mx, .slice na' nx.length nc', .int .i64 bk, .int .i64 lm]) (t := 55) (fr := (0, 0)) (heap_alloc_new wu _))
      have HPu : Hid (∀ g cap w2, w2.ownsRow w.heap.size 55 7 (.slice (some ⟨g, 0, none⟩) (P.length + 1) cap) (P.length + 1) (stepRow P ++ [.int .i64 rc, .slice ta' tl.length tc', .int .i64 mn, .int .i64 mx, .slice na' nx.length nc', .int .i64 bk, .int .i64 lm]) → (wu.alloc (.cells #[.int .i64 rc, .slice ta' tl.length tc', .int .i64 mn, .int .i64 mx, .slice na' nx.length nc', .int .i64 bk, .int .i64 lm] 55)).grownBy w2 (Value.slice a P.length c).ownBlock → _) := Lib.hid fun g cap w2 h1 h2 => BB.out.pushed (g := g) (cap := cap) (w2 := w2) p ⟨HP.out.1.below HWA.out, HP.out.2.below HWA.out⟩ (by rw [HPC.out]; exact h1) h2
      have b0 := block_cell S4.out.box 0 _ rfl
      have b1 := block_cell S4.out.box 1 _ rfl
      have b2 := block_cell S4.out.box 2 _ rfl
      have b3 := block_cell S4.out.box 3 _ rfl
      have b4 := block_cell S4.out.box 4 _ rfl
      have b5 := block_cell S4.out.box 5 _ rfl
      have b6 := block_cell S4.out.box 6 _ rfl
      have hBs := S4.out.base.size
      obtain ⟨i0, hi, hz0, hz1, hz2⟩ := info_parts info_step
      go_wp2_with (at_builtin; refine wpList_append_lies _ rfl _ _ _ rfl w.heap.size 55 i0 _ 7 88 Tryz.underlying22 hi hz0 hz1 hz2 rfl (by decide) (.slice a P.length c) P.length (stepRow P) rfl BB.out.srow ⟨wu.heap.size, 0, none⟩ 1 1 [.int .i64 rc, .slice ta' tl.length tc', .int .i64 mn, .int .i64 mx, .slice na' nx.length nc', .int .i64 bk, .int .i64 lm] rfl rfl HNW.out (by simp [Value.oneCell']) (by decide) ?c1 ?c2 ?c3 (wu.heap.size + 1) (by simp) ?_)
      case c1 => have := HR.out.1; unfold maxLen; omega
      case c2 => have := HR.out.1; omega
      case c3 => first | omega | (simp; omega)
      intro g cap w5 hown hgrow hat hl2
      have F := Lib.hid (HPu.out g cap w5 hown hgrow)
      clear hown hgrow hat b0 b1 b2 b3 b4 b5 b6
      have e9 : IntKind.i64.wrap ((k : Int) + 1) = (k : Int) + 1 := IntWalk.i64_in _ (by omega)
      go_wp2_with fail
      go_roundg (q.P.length - (k + 1))
      case rel =>
        obtain ⟨m1, m2, m3, _⟩ := HR.out
        exact ⟨k + 1, some ⟨g, 0, none⟩, cap, P ++ [p], hlt, rfl, by simp, by go_num, Lib.hid ⟨by simp [m1], F.out, (fun x hx => by
          rcases List.mem_append.1 hx with hx | hx
          · exact m3 x hx
          · rw [List.mem_singleton] at hx; subst hx; exact HPT.out), HAP.out⟩⟩
      case measure => omega
    · obtain rfl : k = q.P.length := by omega
      obtain ⟨m1, m2, m3, m4⟩ := HR.out
      have HB := Lib.hid m2; have HT := Lib.hid m3; have HAP := Lib.hid m4
      have f2 := block_cell m2.fb 2 _ rfl
      have z2 := box_fz m2.fb 2
      have hlB := lt_of_block m2.fb
      clear m2 m3 m4 HR hlt
      go_upto_region 10 with (fail)
      have C0 : Hid (Bg w.heap.size ⟨q.least, q.most, a, c, P, q.wa, q.wc, q.W⟩ h0 h1 h2 w (wr.setCell ⟨w.heap.size, 2, none⟩ (.slice a q.P.length c))) := Lib.hid (by rw [← m1]; exact HB.out.stored)
      clear f2 z2 hlB HB
      generalize wr.setCell ⟨w.heap.size, 2, none⟩ (.slice a q.P.length c) = ws at *
      have hwl : q.W.length ≤ 1000000 := Nat.le_trans HV.out.wlen (by decide)
      obtain ⟨vv, w2, hrun, how, hbw⟩ := copy_wins ws 23 q.wa q.wc q.W (HQ.out.below C0.out.bel).2 hwl
      obtain ⟨va, vc, rfl, -, -, -⟩ := own_slice how
      have HRUN := Lib.hid hrun
      have D0 : Hid (Bf w.heap.size ⟨q.least, q.most, a, c, P, va, vc, q.W⟩ w (w2.setCell ⟨w.heap.size, 3, none⟩ (.slice va q.W.length vc))) := Lib.hid (C0.out.fin hbw how).1
      have HH : Hid ((w2.setCell ⟨w.heap.size, 3, none⟩ (.slice va q.W.length vc)).heap[w.heap.size + 1]? = some (.cells #[.int .i64 h0, .int .i64 h1, .int .i64 h2] 28)) := Lib.hid (C0.out.fin hbw how).2.1
      have hfb2 := (C0.out.fin hbw how).2.2
      have b3 := block_cell C0.out.fb 3 _ rfl
      have b3' := block_cell hfb2 3 _ rfl
      have z3 := box_fz hfb2 3
      have hl3 := lt_of_block C0.out.fb
      clear hrun how hbw hfb2 hwl
      go_upto_region 11 with (at_builtin; refine Lib.wpList_append_run_sl _ rfl _ _ _ rfl _ _ rfl rfl HRUN.out ?_)
      clear b3 b3' z3 hl3 HRUN C0
      generalize w2.setCell ⟨w.heap.size, 3, none⟩ (.slice va q.W.length vc) = wz at *
      have c0 := block_cell HH.out 0 _ rfl
      have c1 := block_cell HH.out 1 _ rfl
      have c2 := block_cell HH.out 2 _ rfl
      have hpos : 0 < q.P.length := by have := HV.out.pos; rw [show q.f.steps.length = q.P.length by simp [FlowP.f]] at this; exact this
      have PK1 := Lib.hid (fun w => pick_any h1 (q.P.length : Int) w f1 (by omega))
      have PK2 := Lib.hid (fun w => pick_any h0 13 w f0 (by omega))
      obtain ⟨qi, qi'⟩ := pickZ_bd (c := h1) (n := (q.P.length : Int)) (by omega)
      obtain ⟨qd, qd'⟩ := pickZ_bd (c := h0) (n := 13) (by omega)
      obtain ⟨m, hm⟩ := Int.eq_ofNat_of_zero_le qi
      rw [hm] at PK1 qi'
      have hmP : m < P.length := by omega
      obtain ⟨A, C, hP, hA, -⟩ := set_split P m hmP
      have hTp := HT.out P[m] (List.getElem_mem hmP)
      generalize P[m] = p0 at hP hTp
      subst hA
      clear hm qi qi' hmP
      generalize pickZ h0 13 = d at *
      go_wp2_with fail
      refine (PK1.out _).mono ?_; rintro e wd ⟨rfl, rfl⟩
      go_upto_region 13 with (fail)
      --CASES
      go_wp2_with fail
      refine (PK2.out _).mono ?_; rintro e wd ⟨rfl, rfl⟩
      obtain ⟨g, cur, hsa, hBg, hgb, hat⟩ := D0.out.row_at (show 0 < P.length by omega)
      obtain rfl : a = some ⟨g, 0, none⟩ := hsa
      have hA : A.length < P.length := by rw [hP]; simp
      have hA' : A.length < q.P.length := by omega
      have hgi : P[A.length] = p0 := by simp [hP]
      have hat0 : ∀ j v, j < 7 → (p0.cells)[j]? = some v → cur[A.length * 7 + j]? = some v := fun j v hj hv => hat A.length hA j v hj (by
        show (StepP.cells P[A.length])[j]? = some v
        rw [hgi]; exact hv)
      have HGB := Lib.hid hgb
      have HAT := Lib.hid hat0
      have hlg := lt_of_block hgb
      clear hat hgb hat0 hgi
      have HPP := Lib.hid hP
      have HF0 := Lib.hid f0
      have HF1 := Lib.hid f1
      rename Fits h2 => f3
      have HF2 := Lib.hid f3
      clear hP HST hBg f0 f1 f3 hpos
      have HPO : Hid (p0.own wz w.heap.size) := Lib.hid (D0.out.lists p0 (by show p0 ∈ P; rw [HPP.out]; simp))
      generalize hAl : A.length = i at *
      rcases (by omega : d = 0 ∨ d = 1 ∨ d = 2 ∨ d = 3 ∨ d = 4 ∨ d = 5 ∨ d = 6 ∨ d = 7 ∨ d = 8 ∨ d = 9 ∨ d = 10 ∨ d = 11 ∨ d = 12) with rfl | rfl | rfl | rfl | rfl | rfl | rfl | rfl | rfl | rfl | rfl | rfl | rfl
      case' inl =>
        have g0 := block_cell D0.out.fb 0 _ rfl
        have z0 := box_fz D0.out.fb 0
        have hlB := lt_of_block D0.out.fb
        go_upto_region 40 with (fail)
        clear g0 z0 hlB
        have HE : Hid (∃ r : FlowP, Bf w.heap.size r w (wz.setCell ⟨w.heap.size, 0, none⟩ (.int .i64 h2))) := Lib.hid ⟨_, D0.out.setF 0 h2 ⟨h2, q.most, _, c, P, va, vc, q.W⟩ ⟨rfl, rfl, rfl, rfl, rfl, rfl⟩ rfl⟩
        generalize wz.setCell ⟨w.heap.size, 0, none⟩ (.int .i64 h2) = wc at *
      case' inr.inl =>
        have g0 := block_cell D0.out.fb 1 _ rfl
        have z0 := box_fz D0.out.fb 1
        have hlB := lt_of_block D0.out.fb
        go_upto_region 40 with (fail)
        clear g0 z0 hlB
        have HE : Hid (∃ r : FlowP, Bf w.heap.size r w (wz.setCell ⟨w.heap.size, 1, none⟩ (.int .i64 h2))) := Lib.hid ⟨_, D0.out.setF 1 h2 ⟨q.least, h2, _, c, P, va, vc, q.W⟩ ⟨rfl, rfl, rfl, rfl, rfl, rfl⟩ rfl⟩
        generalize wz.setCell ⟨w.heap.size, 1, none⟩ (.int .i64 h2) = wc at *
      case' inr.inr.inl =>
        have g0 := block_cell HGB.out (i * 7) _ (HAT.out 0 _ (by decide) rfl)
        have z0 := box_fz HGB.out (i * 7)
        go_upto_region 40 with (fail)
        clear g0 z0
        have HE : Hid (∃ r : FlowP, Bf w.heap.size r w (wz.setCell ⟨g, i * 7, none⟩ (.int .i64 h2))) := Lib.hid ⟨_, by
          have := D0.out.setS rfl HPP.out 0 (by decide) (.int .i64 h2) ⟨⟨h2, p0.s.tools, p0.s.least, p0.s.most, p0.s.next, p0.s.back, p0.s.limit⟩, p0.ta, p0.tc, p0.na, p0.nc⟩ rfl HPO.out
          rw [hAl] at this; exact this⟩
        generalize wz.setCell ⟨g, i * 7, none⟩ (.int .i64 h2) = wc at *
      case' inr.inr.inr.inl =>
        obtain ⟨⟨rc, tl, mn, mx, nx, bk, lm⟩, ta, tc, na, nc⟩ := p0
        obtain ⟨a', c', e, -, -, ht⟩ := own_slice HPO.out.1
        obtain ⟨t, hta, htl, hct⟩ := ht hTp.1
        injection e with e1 e2 e3
        rw [hta] at e1
        simp only at e1 hct
        subst e1
        clear ht hta e2 e3
        obtain ⟨csi, hcsi⟩ := own_block (k := t) HPO.out.1 rfl
        have g1 := block_cell HGB.out (i * 7 + 1) _ (HAT.out 1 _ (by decide) rfl)
        have k0 := hct 0 (.int .i64 tl[0]) (by rw [intV, List.getElem?_map, List.getElem?_eq_getElem hTp.1]; rfl)
        have zt := box_fz hcsi 0
        have hl0 : 0 < tl.length := hTp.1
        have HE : Hid (∃ r : FlowP, Bf w.heap.size r w (wz.setCell ⟨t, 0, none⟩ (.int .i64 h2))) := Lib.hid (D0.out.setT HPP.out HAP.out rfl h2)
        clear hct hcsi
        go_upto_region 40 with (fail)
        clear g1 k0 zt htl hl0
        generalize wz.setCell ⟨t, 0, none⟩ (.int .i64 h2) = wc at *
      case' inr.inr.inr.inr.inl =>
        obtain ⟨⟨rc, tl, mn, mx, nx, bk, lm⟩, ta, tc, na, nc⟩ := p0
        have HWA := Lib.hid (below_new wz (.cells #[.int .i64 h2] 3))
        have HO : Hid (World.ownsRow (wz.alloc (.cells #[.int .i64 h2] 3)) w.heap.size 3 1 (.slice ta tl.length tc) tl.length (intV tl)) := Lib.hid (HPO.out.1.below HWA.out)
        have HNW : Hid (∀ j u, [Value.int .i64 h2][j]? = some u → (wz.alloc (.cells #[.int .i64 h2] 3)).cell? ((⟨wz.heap.size, 0, none⟩ : Addr).add j) = some u) := Lib.hid (World.news_of_block (cs := #[.int .i64 h2]) (t := 3) (fr := (0, 0)) (heap_alloc_new wz _))
        have HAPP : Hid (∀ g' cap w5, w5.ownsRow w.heap.size 3 1 (.slice (some ⟨g', 0, none⟩) (tl.length + 1) cap) (tl.length + 1) (intV tl ++ [.int .i64 h2]) → (wz.alloc (.cells #[.int .i64 h2] 3)).grownBy w5 (Value.slice ta tl.length tc).ownBlock → w5.heap[g]? = some (.cells cur 55) ∧ ∃ r', Bf w.heap.size r' w (w5.setCell ⟨g, i * 7 + 1, none⟩ (.slice (some ⟨g', 0, none⟩) (tl.length + 1) cap))) := Lib.hid fun g' cap w5 ho hgr => by
          have := (D0.out.below HWA.out).app rfl HPP.out HAP.out true h2 ho hgr
          rw [hAl] at this
          exact ⟨this.1 ((HWA.out.block _ hlg).trans HGB.out), this.2⟩
        have g1 := block_cell HGB.out (i * 7 + 1) _ (HAT.out 1 _ (by decide) rfl)
        have g1a := cell_below HWA.out g1
        obtain ⟨i0, hi, hz0, hz1, hz2⟩ := info_parts info_int
        have hBz := D0.out.size
        have hLm : tl.length ≤ 8 := by have := hTp.2; simp only at this; omega
        go_upto_region 40 with (at_builtin; refine wpList_append_lies _ rfl _ _ _ rfl w.heap.size 3 i0 _ 1 8 Tryz.underlying50 hi hz0 hz1 hz2 rfl (by decide) (.slice ta tl.length tc) tl.length (intV tl) rfl HO.out ⟨wz.heap.size, 0, none⟩ 1 1 [.int .i64 h2] rfl rfl HNW.out (by simp [Value.oneCell']) (by decide) ?c1 ?c2 ?c3 (wz.heap.size + 1) (by simp) ?_)
        case c1 => unfold maxLen; omega
        case c2 => omega
        case c3 => first | omega | (simp; omega)
        intro g' cap w5 hown hgrow hat hl2
        obtain ⟨hgb5, HE⟩ := HAPP.out g' cap w5 hown hgrow
        have HE := Lib.hid HE
        clear hown hgrow hat g1 g1a
        have g1 := block_cell hgb5 (i * 7 + 1) _ (HAT.out 1 _ (by decide) rfl)
        have z1 := box_fz hgb5 (i * 7 + 1)
        have hl5 := lt_of_block hgb5
        clear hgb5
        go_upto_region 40 with (fail)
        clear g1 z1 hl5 hl2 hi hz0 hz1 hz2 HAPP
        generalize w5.setCell ⟨g, i * 7 + 1, none⟩ (.slice (some ⟨g', 0, none⟩) (tl.length + 1) cap) = wc at *
      case' inr.inr.inr.inr.inr.inl =>
        have g0 := block_cell HGB.out (i * 7 + 2) _ (HAT.out 2 _ (by decide) rfl)
        have z0 := box_fz HGB.out (i * 7 + 2)
        go_upto_region 40 with (fail)
        clear g0 z0
        have HE : Hid (∃ r : FlowP, Bf w.heap.size r w (wz.setCell ⟨g, i * 7 + 2, none⟩ (.int .i64 h2))) := Lib.hid ⟨_, by
          have := D0.out.setS rfl HPP.out 2 (by decide) (.int .i64 h2) ⟨⟨p0.s.recipe, p0.s.tools, h2, p0.s.most, p0.s.next, p0.s.back, p0.s.limit⟩, p0.ta, p0.tc, p0.na, p0.nc⟩ rfl HPO.out
          rw [hAl] at this; exact this⟩
        generalize wz.setCell ⟨g, i * 7 + 2, none⟩ (.int .i64 h2) = wc at *
      case' inr.inr.inr.inr.inr.inr.inl =>
        have g0 := block_cell HGB.out (i * 7 + 3) _ (HAT.out 3 _ (by decide) rfl)
        have z0 := box_fz HGB.out (i * 7 + 3)
        go_upto_region 40 with (fail)
        clear g0 z0
        have HE : Hid (∃ r : FlowP, Bf w.heap.size r w (wz.setCell ⟨g, i * 7 + 3, none⟩ (.int .i64 h2))) := Lib.hid ⟨_, by
          have := D0.out.setS rfl HPP.out 3 (by decide) (.int .i64 h2) ⟨⟨p0.s.recipe, p0.s.tools, p0.s.least, h2, p0.s.next, p0.s.back, p0.s.limit⟩, p0.ta, p0.tc, p0.na, p0.nc⟩ rfl HPO.out
          rw [hAl] at this; exact this⟩
        generalize wz.setCell ⟨g, i * 7 + 3, none⟩ (.int .i64 h2) = wc at *
      case' inr.inr.inr.inr.inr.inr.inr.inl =>
        obtain ⟨⟨rc, tl, mn, mx, nx, bk, lm⟩, ta, tc, na, nc⟩ := p0
        have HWA := Lib.hid (below_new wz (.cells #[.int .i64 h2] 3))
        have HO : Hid (World.ownsRow (wz.alloc (.cells #[.int .i64 h2] 3)) w.heap.size 3 1 (.slice na nx.length nc) nx.length (intV nx)) := Lib.hid (HPO.out.2.below HWA.out)
        have HNW : Hid (∀ j u, [Value.int .i64 h2][j]? = some u → (wz.alloc (.cells #[.int .i64 h2] 3)).cell? ((⟨wz.heap.size, 0, none⟩ : Addr).add j) = some u) := Lib.hid (World.news_of_block (cs := #[.int .i64 h2]) (t := 3) (fr := (0, 0)) (heap_alloc_new wz _))
        have HAPP : Hid (∀ g' cap w5, w5.ownsRow w.heap.size 3 1 (.slice (some ⟨g', 0, none⟩) (nx.length + 1) cap) (nx.length + 1) (intV nx ++ [.int .i64 h2]) → (wz.alloc (.cells #[.int .i64 h2] 3)).grownBy w5 (Value.slice na nx.length nc).ownBlock → w5.heap[g]? = some (.cells cur 55) ∧ ∃ r', Bf w.heap.size r' w (w5.setCell ⟨g, i * 7 + 4, none⟩ (.slice (some ⟨g', 0, none⟩) (nx.length + 1) cap))) := Lib.hid fun g' cap w5 ho hgr => by
          have := (D0.out.below HWA.out).app rfl HPP.out HAP.out false h2 ho hgr
          rw [hAl] at this
          exact ⟨this.1 ((HWA.out.block _ hlg).trans HGB.out), this.2⟩
        have g1 := block_cell HGB.out (i * 7 + 4) _ (HAT.out 4 _ (by decide) rfl)
        have g1a := cell_below HWA.out g1
        obtain ⟨i0, hi, hz0, hz1, hz2⟩ := info_parts info_int
        have hBz := D0.out.size
        have hLm : nx.length ≤ 8 := by have := hTp.2; simp only at this; omega
        go_upto_region 40 with (at_builtin; refine wpList_append_lies _ rfl _ _ _ rfl w.heap.size 3 i0 _ 1 8 Tryz.underlying50 hi hz0 hz1 hz2 rfl (by decide) (.slice na nx.length nc) nx.length (intV nx) rfl HO.out ⟨wz.heap.size, 0, none⟩ 1 1 [.int .i64 h2] rfl rfl HNW.out (by simp [Value.oneCell']) (by decide) ?c1 ?c2 ?c3 (wz.heap.size + 1) (by simp) ?_)
        case c1 => unfold maxLen; omega
        case c2 => omega
        case c3 => first | omega | (simp; omega)
        intro g' cap w5 hown hgrow hat hl2
        obtain ⟨hgb5, HE⟩ := HAPP.out g' cap w5 hown hgrow
        have HE := Lib.hid HE
        clear hown hgrow hat g1 g1a
        have g1 := block_cell hgb5 (i * 7 + 4) _ (HAT.out 4 _ (by decide) rfl)
        have z1 := box_fz hgb5 (i * 7 + 4)
        have hl5 := lt_of_block hgb5
        clear hgb5
        go_upto_region 40 with (fail)
        clear g1 z1 hl5 hl2 hi hz0 hz1 hz2 HAPP
        generalize w5.setCell ⟨g, i * 7 + 4, none⟩ (.slice (some ⟨g', 0, none⟩) (nx.length + 1) cap) = wc at *
      case' inr.inr.inr.inr.inr.inr.inr.inr.inl =>
        have g0 := block_cell HGB.out (i * 7 + 5) _ (HAT.out 5 _ (by decide) rfl)
        have z0 := box_fz HGB.out (i * 7 + 5)
        go_upto_region 40 with (fail)
        clear g0 z0
        have HE : Hid (∃ r : FlowP, Bf w.heap.size r w (wz.setCell ⟨g, i * 7 + 5, none⟩ (.int .i64 h2))) := Lib.hid ⟨_, by
          have := D0.out.setS rfl HPP.out 5 (by decide) (.int .i64 h2) ⟨⟨p0.s.recipe, p0.s.tools, p0.s.least, p0.s.most, p0.s.next, h2, p0.s.limit⟩, p0.ta, p0.tc, p0.na, p0.nc⟩ rfl HPO.out
          rw [hAl] at this; exact this⟩
        generalize wz.setCell ⟨g, i * 7 + 5, none⟩ (.int .i64 h2) = wc at *
      case' inr.inr.inr.inr.inr.inr.inr.inr.inr.inl =>
        have g0 := block_cell HGB.out (i * 7 + 6) _ (HAT.out 6 _ (by decide) rfl)
        have z0 := box_fz HGB.out (i * 7 + 6)
        go_upto_region 40 with (fail)
        clear g0 z0
        have HE : Hid (∃ r : FlowP, Bf w.heap.size r w (wz.setCell ⟨g, i * 7 + 6, none⟩ (.int .i64 h2))) := Lib.hid ⟨_, by
          have := D0.out.setS rfl HPP.out 6 (by decide) (.int .i64 h2) ⟨⟨p0.s.recipe, p0.s.tools, p0.s.least, p0.s.most, p0.s.next, p0.s.back, h2⟩, p0.ta, p0.tc, p0.na, p0.nc⟩ rfl HPO.out
          rw [hAl] at this; exact this⟩
        generalize wz.setCell ⟨g, i * 7 + 6, none⟩ (.int .i64 h2) = wc at *
      case' inr.inr.inr.inr.inr.inr.inr.inr.inr.inr.inl =>
        have P1 := Lib.hid (fun w => pick_any h1 9 w HF1.out (by omega))
        have P2 := Lib.hid (fun w => pick_any h2 9 w HF2.out (by omega))
        have P3 := Lib.hid (fun w => pick_any h1 100 w HF1.out (by omega))
        generalize pickZ h1 9 = y1 at *
        generalize pickZ h2 9 = y2 at *
        generalize pickZ h1 100 = y3 at *
        have HWA := Lib.hid (below_new wz (.cells #[.int .i64 y1, .int .i64 y2, .int .i64 y3] 58)).drew
        have HO : Hid (World.ownsRow ((wz.alloc (.cells #[.int .i64 y1, .int .i64 y2, .int .i64 y3] 58)).drew) w.heap.size 58 3 (.slice va q.W.length vc) q.W.length (winRow q.W)) := Lib.hid (own_below D0.out.wrow HWA.out)
        have HNW : Hid (∀ j u, [Value.int .i64 y1, .int .i64 y2, .int .i64 y3][j]? = some u → ((wz.alloc (.cells #[.int .i64 y1, .int .i64 y2, .int .i64 y3] 58)).drew).cell? ((⟨wz.heap.size, 0, none⟩ : Addr).add j) = some u) := Lib.hid (World.news_of_block (cs := #[.int .i64 y1, .int .i64 y2, .int .i64 y3]) (t := 58) (fr := (0, 0)) (heap_alloc_new wz _))
        have HPu : Hid (∀ g' cap w5, w5.ownsRow w.heap.size 58 3 (.slice (some ⟨g', 0, none⟩) (q.W.length + 1) cap) (q.W.length + 1) (winRow q.W ++ winCells ⟨y1, y2, y3⟩) → ((wz.alloc (.cells #[.int .i64 y1, .int .i64 y2, .int .i64 y3] 58)).drew).grownBy w5 (Value.slice va q.W.length vc).ownBlock → _) := Lib.hid fun g' cap w5 ho hgr => (D0.out.below HWA.out).pushedW (g := g') (cap := cap) (w2 := w5) ⟨y1, y2, y3⟩ ho hgr
        have b3 := block_cell D0.out.fb 3 _ rfl
        have b3a := cell_below (below_new wz (.cells #[.int .i64 y1, .int .i64 y2, .int .i64 y3] 58)) b3
        have hBz := D0.out.size
        have hwl : q.W.length ≤ 20 := HV.out.wlen
        obtain ⟨i0, hi, hz0, hz1, hz2⟩ := info_parts info_win
        go_upto_region 36 with (fail)
        go_region_law (first | (refine step_append_lies _ (by rfl) _ _ _ (by rfl) w.heap.size 58 i0 _ 3 24 Tryz.underlying23 hi hz0 hz1 hz2 rfl (by decide) (.slice va q.W.length vc) q.W.length (winRow q.W) (by rfl) HO.out ⟨wz.heap.size, 0, none⟩ 1 1 [.int .i64 y1, .int .i64 y2, .int .i64 y3] (by rfl) (by rfl) HNW.out (by simp [Value.oneCell']) (by decide) (by unfold maxLen; omega) (by omega) (by simp; omega) (wz.heap.size + 1) (by simp) ?_; intro g' cap w5 hown hgrow hat hlt2; have hfb5 := (HPu.out g' cap w5 hown hgrow).1; have z2 := box_fz hfb5 3; have k2 := block_cell hfb5 3 _ rfl) | (go_simp; go_at_call 23; first | ((with_reducible refine (P1.out _).mono ?_); rintro _ _ ⟨rfl, rfl⟩) | ((with_reducible refine (P2.out _).mono ?_); rintro _ _ ⟨rfl, rfl⟩) | ((with_reducible refine (P3.out _).mono ?_); rintro _ _ ⟨rfl, rfl⟩)))
        all_goals
          have HE : Hid (∃ r : FlowP, Bf w.heap.size r w (w5.setCell ⟨w.heap.size, 3, none⟩ (.slice (some ⟨g', 0, none⟩) (q.W.length + 1) cap))) := Lib.hid ⟨_, (HPu.out g' cap w5 hown hgrow).2⟩
          clear hown hgrow hat hlt2 hfb5 z2 k2 hi hz0 hz1 hz2 HPu HO HNW HWA b3 b3a P1 P2 P3
          generalize w5.setCell ⟨w.heap.size, 3, none⟩ (.slice (some ⟨g', 0, none⟩) (q.W.length + 1) cap) = wc at *
          go_upto_region 40 with (fail)
      case' inr.inr.inr.inr.inr.inr.inr.inr.inr.inr.inr.inl =>
        have b3 := block_cell D0.out.fb 3 _ rfl
        by_cases hW0 : 0 < q.W.length
        case' pos =>
          obtain ⟨v, L, hWe⟩ : ∃ v L, q.W = v :: L := by
            cases hq : q.W with
            | nil => rw [hq] at hW0; cases hW0
            | cons v L => exact ⟨v, L, rfl⟩
          obtain ⟨a', c', e, -, -, ht⟩ := own_slice D0.out.wrow
          obtain ⟨t, hta, htl, hct⟩ := ht hW0
          injection e with e1 e2 e3
          rw [hta] at e1
          simp only at e1 hct
          subst e1
          clear ht hta e2 e3
          obtain ⟨csi, hcsi⟩ := own_block (k := t) D0.out.wrow rfl
          have k0 := hct 2 (.int .i64 v.limit) (by rw [hWe]; rfl)
          have zt := box_fz hcsi 2
          have HE : Hid (∃ r : FlowP, Bf w.heap.size r w (wz.setCell ⟨t, 2, none⟩ (.int .i64 h2))) := Lib.hid (D0.out.setW hWe rfl h2)
          clear hct hcsi hWe
          go_upto_region 40 with (fail)
          clear b3 k0 zt htl hW0
          generalize wz.setCell ⟨t, 2, none⟩ (.int .i64 h2) = wc at *
        case' neg =>
          have HE : Hid (∃ r : FlowP, Bf w.heap.size r w wz) := Lib.hid ⟨_, D0.out⟩
          go_upto_region 40 with (fail)
          clear b3 hW0 hlg HGB HPO D0
          generalize wz = wc at *
      case' inr.inr.inr.inr.inr.inr.inr.inr.inr.inr.inr.inr =>
        have g0 := block_cell HGB.out (i * 7 + 1) _ (HAT.out 1 _ (by decide) rfl)
        have z0 := box_fz HGB.out (i * 7 + 1)
        go_upto_region 40 with (fail)
        clear g0 z0
        have HE : Hid (∃ r : FlowP, Bf w.heap.size r w (wz.setCell ⟨g, i * 7 + 1, none⟩ (.slice none 0 0))) := Lib.hid ⟨_, by
          have := D0.out.setS rfl HPP.out 1 (by decide) (.slice none 0 0) ⟨⟨p0.s.recipe, [], p0.s.least, p0.s.most, p0.s.next, p0.s.back, p0.s.limit⟩, none, 0, p0.na, p0.nc⟩ rfl ⟨World.ownsRow_nil _ _ _ _, HPO.out.2⟩
          rw [hAl] at this; exact this⟩
        generalize wz.setCell ⟨g, i * 7 + 1, none⟩ (.slice none 0 0) = wc at *
      all_goals
        obtain ⟨r, hr⟩ := HE.out
        have HR := Lib.hid hr
        obtain ⟨x0, x1, x2, x3, hrb⟩ := hr.rq
        have g0 := block_cell hr.fb 0 _ rfl
        have g1 := block_cell hr.fb 1 _ rfl
        have g2 := block_cell hr.fb 2 _ rfl
        have g3 := block_cell hr.fb 3 _ rfl
        have r0 := block_cell hrb 0 _ rfl
        have r1 := block_cell hrb 1 _ rfl
        have r2 := block_cell hrb 2 _ rfl
        have r3 := block_cell hrb 3 _ rfl
        have z0 := box_fz hrb 0
        have z1 := box_fz hrb 1
        have z2 := box_fz hrb 2
        have z3 := box_fz hrb 3
        have hlR := lt_of_block hrb
        have HRB := Lib.hid hrb
        clear hr hrb c0 c1 c2 PK1 PK2 HE
        go_wp2_with fail
        clear g0 g1 g2 g3 r0 r1 r2 r3 z0 z1 z2 z3 hlR
        have HD4 := Lib.hid (HR.out.set4 (.int .i64 r.least) (.int .i64 r.most) (.slice r.sa r.P.length r.sc) (.slice r.wa r.W.length r.wc))
        have rb := block_set (block_set (block_set (block_set HRB.out (o := 0) (.int .i64 r.least)) (o := 1) (.int .i64 r.most)) (o := 2) (.slice r.sa r.P.length r.sc)) (o := 3) (.slice r.wa r.W.length r.wc)
        generalize (((wc.setCell ⟨w.heap.size + 1 + 1, 0, none⟩ (.int .i64 r.least)).setCell ⟨w.heap.size + 1 + 1, 1, none⟩ (.int .i64 r.most)).setCell ⟨w.heap.size + 1 + 1, 2, none⟩ (.slice r.sa r.P.length r.sc)).setCell ⟨w.heap.size + 1 + 1, 3, none⟩ (.slice r.wa r.W.length r.wc) = V at *
        have r0 := block_cell rb 0 (.int .i64 r.least) rfl
        have r1 := block_cell rb 1 (.int .i64 r.most) rfl
        have r2 := block_cell rb 2 (.slice r.sa r.P.length r.sc) rfl
        have r3 := block_cell rb 3 (.slice r.wa r.W.length r.wc) rfl
        clear rb
        refine bodyPost_ret (v := r.v) (by simp [results, Tryz.results15, go_sem, r0, r1, r2, r3]) rfl ?_
        exact ⟨r, rfl, HD4.out.ok, HD4.out.bel⟩
end Go.Proofs.YtblnfcffalaeaaaGreatDoor
