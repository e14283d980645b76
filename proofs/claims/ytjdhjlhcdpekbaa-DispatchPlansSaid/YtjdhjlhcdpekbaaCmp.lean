/-
  The comparison by a list of rules.
-/
import Derived.Test.YtjdhjlhcdpekbaaRule
import Derived.Test.YtjdhjlhcdpekbaaOpen
import Derived.WalkSpells
namespace Go.Proofs.Ytjdhjlhcdpekbaa
open Go.RowKit Go.Shelf Go.Sort Dsp

theorem info_aheadF : (Try.prog.info? 132).map (fun i => (i.zero, i.size, i.bytes)) = some (some .nilFunc, 1, 8) := by kernel_rfl
theorem byV_form (B x : Nat) : ∃ ff fc, byV B x = .func ff #[] fc := by
  by_cases h : x = 1 ∨ x = 2 ∨ x = 3 ∨ x = 4 ∨ x = 5 ∨ x = 6
  · rcases h with rfl | rfl | rfl | rfl | rfl | rfl <;> exact ⟨_, _, rfl⟩
  · exact ⟨_, _, by unfold byV; rw [if_neg (by omega), if_neg (by omega), if_neg (by omega), if_neg (by omega), if_neg (by omega), if_neg (by omega)]⟩
theorem firstOf_any (p : Option Addr) (n c : Nat) (w : World) : Calls Try.prog 75 #[.slice p n c] w fun e w' => ∃ X, e = .returned (.func (.func 97) #[] #[.pointer (some ⟨X, 0, none⟩)]) ∧ w'.cell? ⟨X, 0, none⟩ = some (.slice p n c) ∧ w.heap.size ≤ X ∧ Below w.heap.size w w' := by
  go_enter Try.func75, Try.ntmps75
  go_wp2_with fail
  go_ret
  exact ⟨_, rfl, by go_simp, Nat.le_refl _, below_new _ _⟩

def qsOf (rs : List Int) : List Nat := rs.map Int.toNat ++ [0]
theorem qsOf_le {rs : List Int} (h : ∀ x ∈ rs, 1 ≤ x ∧ x ≤ 6) : ∀ q ∈ qsOf rs, q ≤ 6 := by
  intro q hq
  unfold qsOf at hq
  rcases List.mem_append.1 hq with hq | hq
  · obtain ⟨x, hx, rfl⟩ := List.mem_map.1 hq
    have := h x hx; omega
  · simp at hq; omega
theorem cmpQ_of : ∀ {rs : List Int}, (∀ x ∈ rs, 1 ≤ x ∧ x ≤ 6) → ∀ (r : Int) (a b : Jb), cmpQ (qsOf rs) r a b = cmp rs r a b
  | [], _, r, a, b => by simp [qsOf, cmpQ, isBy, cmp]
  | x :: rs, h, r, a, b => by
    have h1 := h x (by simp)
    have ih := cmpQ_of (rs := rs) (fun y hy => h y (by simp [hy])) r a b
    have e : qsOf (x :: rs) = x.toNat :: qsOf rs := rfl
    have e1 : ∀ a b, isBy x.toNat r a b = byR x r a b := fun a b => by unfold isBy; rw [if_neg (by omega), show ((x.toNat : Nat) : Int) = x by omega]
    rw [e, cmpQ, e1, e1, ih, cmp]
set_option maxRecDepth 100000 in
set_option maxHeartbeats 1000000 in
theorem comparison_any (rs : List Int) (a : Option Addr) (c : Nat) (r : Int) (w : World) (h : IntA w a c rs) (h16 : ∀ x ∈ rs, 1 ≤ x ∧ x ≤ 6) (hl : rs.length ≤ 1000) :
    Calls Try.prog 52 #[.slice a rs.length c, .int .i64 r] w fun e w' => ∃ X, e = .returned (.func (.func 97) #[] #[.pointer (some ⟨X, 0, none⟩)]) ∧ CmpAt w.heap.size X (qsOf rs) r w' ∧ Below w.heap.size w w' := by
  have H := Lib.hid h; have H16 := Lib.hid h16
  have HA := Lib.hid (aheadBy_any r w)
  obtain ⟨i0, hi, hz0, hz1, hz2⟩ := info_parts info_aheadF
  clear h h16
  go_enter Try.func52, Try.ntmps52
  go_wp2_with fail
  refine HA.out.mono ?_
  rintro _ w1 ⟨M, B, rfl, m1, c1, lB, b1⟩
  have M1 := Lib.hid m1; have C1 := Lib.hid c1; have B1 := Lib.hid b1
  clear m1 c1 b1
  go_wp2_with fail
  go_loopw [6, 13] (fun vv i wr => ∃ (k : Nat) (v : Value), k ≤ rs.length ∧ i = .int .i64 (k : Int) ∧ v = vv ∧ Hid (wr.ownsRow w1.heap.size 132 1 v k ((rs.take k).map fun x => byV B x.toNat)) ∧ Hid (Below w1.heap.size w1 wr)) (fun _ i _ => rs.length - (intOf i).toNat)
  case atStart => exact ⟨0, _, Nat.zero_le _, rfl, rfl, Lib.hid (World.ownsRow_nil _ _ _ _), Lib.hid (Below.refl _ _)⟩
  case round =>
    obtain ⟨k, v, hk, rfl, rfl, HV, HB⟩ := hrel
    by_cases hlt : k < rs.length
    · obtain ⟨b, off, rfl, hb, hc0⟩ := H.out.2.2 k hlt
      have hc : wr.cell? ⟨b, off + k, none⟩ = some (.int .i64 rs[k]) := cell_below HB.out (cell_below B1.out hc0)
      obtain ⟨g1, g2⟩ := H16.out rs[k] (List.getElem_mem hlt)
      obtain ⟨x, hx⟩ : ∃ x : Nat, rs[k] = (x : Int) := ⟨rs[k].toNat, by omega⟩
      have HS := Lib.hid (show (rs.take (k + 1)).map (fun x => byV B x.toNat) = (rs.take k).map (fun x => byV B x.toNat) ++ [byV B x] by rw [List.take_succ_eq_append_getElem hlt, List.map_append, hx]; simp)
      rw [hx] at hc g1 g2
      have hlk : ∀ W, Below w1.heap.size w1 W → (Instr.lookup 129 (.map (some M)) (.int .i64 (x : Int)) false).run Try.prog W = .ok (byV B x) W := by
        intro W hW
        obtain ⟨es, clock, hm, hf⟩ := M1.out.below hW
        obtain ⟨i, hfi⟩ := hf x (by omega) (by omega)
        exact run_lookup_at W _ 3 132 M es clock x i _ Try.underlying129 Try.underlying3 hm hfi
      have HL := Lib.hid hlk
      have hl1 := hlk wr HB.out
      have k0 : (0 : Int) ≤ (k : Int) := by omega
      have k1 : (k : Int) < (rs.length : Int) := by omega
      obtain ⟨ff, fc, hne⟩ := byV_form B x
      clear hc0 hx hlk g1 g2
      rw [hne] at HS HL hl1
      have HFV := Lib.hid (show ∀ u ∈ [Value.func ff #[] fc], u.oneCell' = true by intro u hu; simp only [List.mem_singleton] at hu; rw [hu]; rfl)
      clear hne
      go_wp2_with (at_builtin; refine wpList_append_own _ rfl _ _ 131 rfl w1.heap.size 132 i0 .nilFunc 1 8 Try.underlying131 hi hz0 hz1 hz2 rfl (by decide) _ _ _ rfl (HV.out.alloc _) ⟨wr.heap.size, 0, none⟩ 1 1 [.func ff #[] fc] rfl rfl (cell_one_new _ _ _) HFV.out (by unfold maxLen; omega) (by omega) (by have h2 := HB.out.size; simp; omega) ?_; intro v' w4 hown' hgrow _)
      have O4 := Lib.hid (show w4.ownsRow w1.heap.size 132 1 v' (k + 1) ((rs.take (k + 1)).map fun x => byV B x.toNat) by rw [HS.out]; exact hown')
      have G4 := Lib.hid (HB.out.trans (((Below.refl w1.heap.size wr).alloc HB.out.size (.cells #[.func ff #[] fc] 132)).grown hgrow (by have := HB.out.size; simp; omega) (fun kk e => (HV.out.lt kk e).1)))
      clear hown' hgrow hl1
      go_wp2_with fail
      go_roundw
      case rel => exact ⟨k + 1, _, hlt, by go_num, rfl, O4, G4⟩
      case measure => simp [intOf]; omega
    · have k1 : ¬ (k : Int) < (rs.length : Int) := by omega
      obtain rfl : k = rs.length := by omega
      rw [List.take_length] at HV
      have hm : ((rs.map fun x => byV B x.toNat)).length = rs.length := by simp
      have HFV := Lib.hid (show ∀ u ∈ [Value.func (.func 74) #[] #[]], u.oneCell' = true by intro u hu; simp only [List.mem_singleton] at hu; rw [hu]; rfl)
      go_wp2_with (at_builtin; refine wpList_append_own _ rfl _ _ 131 rfl w1.heap.size 132 i0 .nilFunc 1 8 Try.underlying131 hi hz0 hz1 hz2 rfl (by decide) _ _ _ rfl (HV.out.alloc _) ⟨wr.heap.size, 0, none⟩ 1 1 [.func (.func 74) #[] #[]] rfl rfl (cell_one_new _ _ _) HFV.out (by unfold maxLen; omega) (by omega) (by have h2 := HB.out.size; simp; omega) ?_; intro v' w4 hown' hgrow _)
      have G4 := Lib.hid (HB.out.trans (((Below.refl w1.heap.size wr).alloc HB.out.size (.cells #[.func (.func 74) #[] #[]] 132)).grown hgrow (by have := HB.out.size; simp; omega) (fun kk e => (HV.out.lt kk e).1)))
      obtain ⟨p, cp, hv', f1, f2, f3⟩ := own_slice hown'
      have F := Lib.hid (show FnA w4 p cp B (qsOf rs) by
        refine ⟨by simpa [qsOf] using f1, f2, fun i hi => ?_⟩
        have hi' : i < rs.length + 1 := by simpa [qsOf] using hi
        obtain ⟨g, e, hg, hcell⟩ := f3 (by omega)
        have hq : (qsOf rs)[i]? = some (qsOf rs)[i] := List.getElem?_eq_getElem hi
        have hrow : ((rs.map fun x => byV B x.toNat) ++ [Value.func (.func 74) #[] #[]])[i]? = some (byV B (qsOf rs)[i]) := by
          have e1 : ((rs.map fun x => byV B x.toNat) ++ [Value.func (.func 74) #[] #[]]) = (qsOf rs).map (byV B) := by
            unfold qsOf; rw [List.map_append, List.map_map]; rfl
          rw [e1, List.getElem?_map, hq]; rfl
        refine ⟨?_, g, 0, e, hg, hcell i _ hrow⟩
        exact qsOf_le H16.out _ (List.getElem_mem hi))
      have CB := Lib.hid (cell_below G4.out C1.out)
      subst hv'
      have PB := Lib.hid (show ∀ x, p = some x → w.heap.size ≤ x.block from fun x hx => by
        have h1 := (hown'.lt x.block (by rw [hx]; rfl)).1
        have h2 := B1.out.size
        omega)
      clear hown' hgrow f1 f2 f3
      have HN := Lib.hid (show (qsOf rs).length = rs.length + 1 by simp [qsOf])
      go_wp2_with fail
      refine (firstOf_any _ _ _ _).mono ?_
      rintro _ w5 ⟨X, rfl, cx, lX, b5⟩
      have R5 := Lib.hid (show CmpAt w.heap.size X (qsOf rs) r w5 from ⟨p, cp, B, by rw [HN.out]; exact cx, F.out.below b5, cell_below b5 CB.out, by have h1 := B1.out.size; have h2 := G4.out.size; omega, lB, PB.out⟩)
      have B5 := Lib.hid (below_step (below_step B1.out G4.out) b5)
      clear cx b5
      go_wp2_with fail
      go_ret
      exact ⟨X, rfl, R5.out, B5.out⟩
end Go.Proofs.Ytjdhjlhcdpekbaa
