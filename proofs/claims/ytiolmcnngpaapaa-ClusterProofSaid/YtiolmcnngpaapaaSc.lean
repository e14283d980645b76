/-
  Contract of shortestCycle.
-/
import Derived.Test.YtiolmcnngpaapaaFc
namespace Go.Proofs.Ytiolmcnngpaapaa
open Go.RowKit Go.Shelf Cy

theorem info_table : (Try.prog.info? 119).map (fun i => (i.zero, i.size, i.bytes)) = some (some (.slice none 0 0), 1, 24) := by kernel_rfl
def oneV (x : Value) : List Value := [x]
/-- A slice of tables that the call has made. -/
def ShO (w : World) (B n : Nat) (p : Int) (L : List Arc) (v : Value) (k : Nat) : Prop :=
  ∃ vs : List Value, vs.length = k ∧ RowO oneV 119 1 w B v vs ∧ ∀ i (h : i < vs.length), ∃ g r, vs[i] = rowV g n ∧ TabAt w 0 g n r (Cy.T p L i)
theorem ShO.nil (w : World) (B n : Nat) (p : Int) (L : List Arc) : ShO w B n p L (.slice none 0 0) 0 := ⟨[], rfl, RowO.nil _ _ _ _ _, fun i h => by simp at h⟩
theorem ShO.below {w w' : World} {B n : Nat} {p : Int} {L : List Arc} {v : Value} {k : Nat} (h : ShO w B n p L v k) (hb : Below w.heap.size w w') : ShO w' B n p L v k := by
  obtain ⟨vs, h1, h2, h3⟩ := h
  exact ⟨vs, h1, h2.below hb, fun i hi => let ⟨g, r, e, ht⟩ := h3 i hi; ⟨g, r, e, ht.below hb⟩⟩
theorem ShO.tabs {w : World} {B n : Nat} {p : Int} {L : List Arc} {v : Value} {k : Nat} (h : ShO w B n p L v k) : ∃ a c, v = .slice a k c ∧ TabsA w n p L a c k := by
  obtain ⟨vs, rfl, h2, h3⟩ := h
  obtain ⟨a, c, rfl, h4, -⟩ := RowO.arg (f := oneV) (k := 1) (fun _ => rfl) h2
  refine ⟨a, c, rfl, ⟨h4.1, h4.2.1⟩, fun i hi => ?_⟩
  obtain ⟨b, off, e, _, hc⟩ := h4.2.2 i hi
  obtain ⟨g, r, e2, ht⟩ := h3 i hi
  refine ⟨b, off, g, r, e, ?_, ht⟩
  have := hc 0 vs[i] rfl
  rw [e2] at this
  simpa using this
/-- A table is none of the blocks of a slice of tables. -/
theorem tab_own {w w' : World} {B B' n m g k : Nat} {v : Value} {r : Nat → Nat} {f : Nat → Nat → Int} {xs : List Value} (h : TabTo w B g n k r f) (ho : w.ownsRow B' 119 1 v m xs) (hg : w.grownBy w' v.ownBlock) : TabTo w' B g n k r f := by
  refine h.ks (KS.ofCh (Ch.grown (S := fun i => v.ownBlock = some i) hg (fun i e => e))) (fun e => ?_) (fun i h1 h2 e => ?_)
  · obtain ⟨cs, hcs⟩ := own_block ho e
    rw [h.tab] at hcs; injection hcs with hcs; injection hcs with _ hcs; exact absurd hcs (by decide)
  · obtain ⟨cs, hcs⟩ := own_block ho e
    have := h.row i h1 h2; unfold IntRow at this
    rw [this] at hcs; injection hcs with hcs; injection hcs with _ hcs; exact absurd hcs (by decide)
theorem cycLen_is {p : Int} {L : List Arc} {n : Nat} : ∀ (f k j : Nat), k ≤ j → j ≤ k + f → (∀ i, k ≤ i → i < j → refutesT p L n i = false) → (j = k + f ∨ refutesT p L n j = true) → cycLen p L n f k = j := by
  intro f; induction f with
  | zero => intro k j h1 h2 _ _; simp only [cycLen]; omega
  | succ f ih =>
    intro k j h1 h2 h3 h4
    rw [cycLen]
    by_cases e : j = k
    · subst e
      rcases h4 with h4 | h4
      · omega
      · rw [if_pos h4]
    · rw [if_neg (by rw [h3 k (Nat.le_refl _) (by omega)]; simp)]
      exact ih (k + 1) j (by omega) (by omega) (fun i hi hj => h3 i (by omega) hj) (by rcases h4 with h4 | h4; exact .inl (by omega); exact .inr h4)
def ScPost (p : Int) (L : List Arc) (n : Nat) (w : World) (e : Ending) (w' : World) : Prop := ∃ v, e = .returned v ∧ IntsO w' w.heap.size v (natsI (cyc p L n)) ∧ Below w.heap.size w w'
set_option maxRecDepth 100000 in
set_option maxHeartbeats 4000000 in
theorem shortestCycle_any (n : Nat) (hn1 : 1 ≤ n) (hn : n ≤ 32) (p : Int) (L : List Arc) (hG : Grd n p L) (hL : L.length ≤ 200) (hO : ∀ x ∈ L, ArcOk x) (hp : -1000000 ≤ p ∧ p ≤ 1000000) (hS : starts p L n = none)
    (a : Option Addr) (c : Nat) (w : World) (hA : ArcA w a c L) :
    Calls Try.prog 56 #[.int .i64 (n : Int), .slice a L.length c, .int .i64 p] w (ScPost p L n w) := by
  obtain ⟨i0, hi, hz0, hz1, hz2⟩ := info_parts info_table
  have HLa := Lib.hid (longestArcs_any n hn p L a c w hG hA hL hO hp)
  have HSt := Lib.hid (fun v => standing_any n hn1 hn v)
  have HPr := Lib.hid (fun k hk gt rt b nm D v hT hM hD => prolonged_any n hn1 hn p L hG k hk 0 gt rt b nm D v hT hM hD)
  have HFc := Lib.hid (fun k hk hpos ta tc v hA hT => firstCycle_any n p L hG hL hO hp k hk hpos a c ta tc v hA hT)
  have HRf := Lib.hid (fun g r f v h => refutes_any n hn 0 g r f v h)
  have HYes := Lib.hid (show ∃ i, i ≤ n ∧ refutesT p L n i = true from by
    obtain ⟨i, c, h1, h2, h3, h4, h5⟩ := dual hG hn1 hS
    exact ⟨c.length, h4, (refutesT_walk hG hn (by omega)).2 ⟨i, c, h1, h2, rfl, h5⟩⟩)
  have HA := Lib.hid hA
  have n0 : (0 : Int) ≤ (n : Int) := by omega
  have n1 : (n : Int) ≤ 32 := by omega
  clear hG hL hO hp hS hA
  go_enter Try.func56, Try.ntmps56
  go_wp2_with fail
  refine HLa.out.mono ?_
  rintro _ w1 ⟨b, nm, D, rfl, hM, -, hD, hlow, hB1⟩
  have HM1 := Lib.hid hM; have HD := Lib.hid hD; have HB1 := Lib.hid hB1
  clear hM hD hB1 HLa
  go_wp2_with fail
  refine (HSt.out _).mono ?_
  rintro _ w2 ⟨g, r, rfl, hT, hB2⟩
  have HT2 := Lib.hid ((hT.mono (Nat.zero_le _)).congr (f' := Cy.T p L 0) (fun i j _ _ => rfl))
  have HM2 := Lib.hid (HM1.out.kept (grown_of_below hB2) (by simp))
  have HB2 := Lib.hid (below_step HB1.out hB2)
  clear hT hB2 HSt HM1 HB1
  go_wp2_with fail
  go_loopg [8, 9] n (fun gh sv tv wr => ∃ (k : Nat) (v : Value) (g : Nat) (r : Nat → Nat), k ≤ n ∧ gh = n - k ∧ v = sv ∧ tv = rowV g n ∧ Hid (∀ j, j < k → refutesT p L n j = false) ∧ Hid (TabAt wr 0 g n r (Cy.T p L k)) ∧ Hid (ShO wr w.heap.size n p L v k) ∧ Hid (OwnMap wr b nm D) ∧ Hid (Below w.heap.size w wr))
  case atStart => exact ⟨0, _, g, r, Nat.zero_le _, by omega, rfl, rfl, Lib.hid (fun j hj => by omega), HT2, Lib.hid (ShO.nil _ _ _ _ _), HM2, HB2⟩
  case round =>
    clear HT2 HM2 HB2
    obtain ⟨k, v, g, r, hk, rfl, rfl, rfl, HNo, HT, HS, HM, HB⟩ := hrel
    obtain ⟨va, vc, hv, HTa⟩ := HS.out.tabs
    replace HTa := Lib.hid HTa
    subst hv
    have HDg := Lib.hid (show diag n (Cy.T p L k) = refutesT p L n k from rfl)
    have k0 : (0 : Int) ≤ (k : Int) := by omega
    have kn : (k : Int) ≤ 32 := by omega
    have HR := Lib.hid (HRf.out g r (Cy.T p L k) wr HT.out)
    rw [HDg.out] at HR
    by_cases hlt : k < n
    · have k1 : (k : Int) < (n : Int) := by omega
      generalize hF : refutesT p L n k = F at *
      have HF := Lib.hid hF
      clear hF
      cases F with
      | true =>
        have HK := Lib.hid (show cycLen p L n n 0 = k from cycLen_is n 0 k (Nat.zero_le _) (by omega) (fun i _ h => HNo.out i h) (.inr HF.out))
        go_wp2_with fail
        refine HR.out.mono ?_
        rintro _ w3 ⟨rfl, rfl⟩
        go_wp2_with fail
        refine (HFc.out k (by omega) (.inr (refutesT_iff.1 HF.out)) va vc wr (HA.out.below HB.out) HTa.out).mono ?_
        rintro _ w4 ⟨v4, rfl, hv4, hb4⟩
        have HV4 := Lib.hid hv4; have HB4 := Lib.hid hb4
        clear hv4 hb4
        go_wp2_with fail
        go_ret
        exact ⟨v4, rfl, by unfold cyc; rw [HK.out]; exact RowO.mono HV4.out HB.out.size, below_step HB.out HB4.out⟩
      | false =>
        have HNo2 := Lib.hid (show ∀ j, j < k + 1 → refutesT p L n j = false from fun j hj => by
          by_cases e : j = k
          · subst e; exact HF.out
          · exact HNo.out j (by omega))
        go_wp2_with fail
        refine HR.out.mono ?_
        rintro _ w3 ⟨rfl, rfl⟩
        obtain ⟨vs, hvl, hvo, hvt⟩ := HS.out
        have HVo := Lib.hid (show wr.ownsRow w.heap.size 119 1 (.slice va k vc) k (vs.flatMap oneV) from by have := hvo; unfold RowO at this; rwa [hvl] at this)
        have HVt := Lib.hid hvt; have HVl := Lib.hid hvl
        have hbs := HB.out.size
        clear hvo hvt hvl HR HDg
        go_upto_region 6 with (at_builtin; refine wpList_append_own _ rfl _ _ 118 rfl w.heap.size 119 i0 (.slice none 0 0) 1 24 Try.underlying118 hi hz0 hz1 hz2 rfl (by decide) _ _ _ rfl (HVo.out.alloc _) ⟨wr.heap.size, 0, none⟩ 1 1 [rowV g n] rfl rfl (cell_one_new _ _ _) (by simp [Value.oneCell']) (by unfold maxLen; omega) (by omega) (by simp; omega) ?_; intro v' w6 hown' hgrow _)
        have hb7 := below_new wr (.cells #[rowV g n] 119)
        have hwo : (wr.alloc (.cells #[rowV g n] 119)).ownsRow w.heap.size 119 1 (.slice va k vc) k (vs.flatMap oneV) := HVo.out.alloc _
        have HS6 := Lib.hid (show ShO w6 w.heap.size n p L v' (k + 1) from by
          refine ⟨vs ++ [rowV g n], by rw [List.length_append, HVl.out]; rfl, ?_, fun i hi => ?_⟩
          · refine RowO.snoc ?_
            rw [HVl.out]; exact hown'
          · by_cases e : i < vs.length
            · obtain ⟨g2, r2, e2, ht2⟩ := HVt.out i e
              exact ⟨g2, r2, by rw [List.getElem_append_left e]; exact e2, tab_own (ht2.below hb7) hwo hgrow⟩
            · obtain rfl : i = vs.length := by simp at hi; omega
              refine ⟨g, r, by simp, ?_⟩
              rw [HVl.out]
              exact tab_own (HT.out.below hb7) hwo hgrow)
        have HT6 := Lib.hid (tab_own (HT.out.below hb7) hwo hgrow)
        have HM6 := Lib.hid (show OwnMap w6 b nm D from (HM.out.alloc _).kept hgrow (fun e => by
          obtain ⟨cc, hcc⟩ := own_block hwo e.symm
          obtain ⟨es, clock, hb, -⟩ := HM.out.alloc (.cells #[rowV g n] 119)
          rw [hb] at hcc; cases hcc))
        have HB6 := Lib.hid (HB.out.trans (((Below.refl w.heap.size wr).alloc hbs (.cells #[rowV g n] 119)).grown hgrow (by simp; omega) (fun kk e => (HVo.out.lt kk e).1)))
        have HPr6 := Lib.hid (HPr.out k (by omega) g r b nm D w6 HT6.out HM6.out HD.out)
        clear hown' hgrow hb7 hwo HVo HVt HVl HT HM HS HTa HB
        go_wp2_with fail
        refine HPr6.out.mono ?_
        rintro _ w7 ⟨g7, r7, rfl, hT7, hB7⟩
        have HT7 := Lib.hid (hT7.mono (Nat.zero_le _))
        have HM7 := Lib.hid (HM6.out.kept (grown_of_below hB7) (by simp))
        have HS7 := Lib.hid (HS6.out.below hB7)
        have HB7 := Lib.hid (below_step HB6.out hB7)
        clear hT7 hB7 HPr6
        go_wp2_with fail
        go_roundg (n - (k + 1))
        case rel => exact ⟨k + 1, v', g7, r7, hlt, rfl, rfl, rfl, HNo2, HT7, HS7, HM7, HB7⟩
        case measure => omega
    · obtain rfl : k = n := by omega
      have k1 : ¬ (k : Int) < (k : Int) := by omega
      have HK := Lib.hid (show cycLen p L k k 0 = k from cycLen_is k 0 k (Nat.zero_le _) (by omega) (fun i _ h => HNo.out i h) (.inl (by omega)))
      have HY := Lib.hid (show refutesT p L k k = true from by
        obtain ⟨i, h1, h2⟩ := HYes.out
        by_cases e : i = k
        · subst e; exact h2
        · rw [HNo.out i (by omega)] at h2; cases h2)
      go_wp2_with fail
      refine (HFc.out k (by omega) (.inr (refutesT_iff.1 HY.out)) va vc wr (HA.out.below HB.out) HTa.out).mono ?_
      rintro _ w4 ⟨v4, rfl, hv4, hb4⟩
      have HV4 := Lib.hid hv4; have HB4 := Lib.hid hb4
      clear hv4 hb4
      go_wp2_with fail
      go_ret
      exact ⟨v4, rfl, by unfold cyc; rw [HK.out]; exact RowO.mono HV4.out HB.out.size, below_step HB.out HB4.out⟩
end Go.Proofs.Ytiolmcnngpaapaa

