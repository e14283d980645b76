/-
  readFact. Written by tools/l15_rf.py.
-/
import Derived.Test.YtnmjcjkjdbkpnaaDoorRd
import Derived.Deep.MidRow
namespace Go.Proofs.YtnmjcjkjdbkpnaaDoor
open Go.RowKit Go.Shelf Fc
attribute [local go_sem] Oper.semAt_some
abbrev rdObj (s : ByteArray) (a : Int) (F : Fact) : Obj := .cells #[.string s, .int .i64 a, .int .i64 F.k, .int .i64 F.id, .int .i64 F.v, .int .i64 F.d, .bool F.gone, .int .i64 F.ti, .int .i64 F.un, .int .i64 F.w, .int .i64 F.ot, .int .i64 F.lo, .int .i64 F.pr, .int .i64 F.tl, .int .i64 F.ch, .int .i64 F.st, .int .i64 F.rc, .int .i64 F.rv, .int .i64 F.va, .int .i64 F.pa, .string F.tx] 59
theorem rd_cell {w : World} {b : Nat} {s : ByteArray} {a : Int} {F : Fact} (h : w.heap[b]? = some (rdObj s a F)) {x : Nat} (hx : x < 14) : w.cell? ⟨b, 2 + cellOf x, none⟩ = some (.int .i64 (get F x)) := by
  refine box_cell h _ _ ?_
  match x, hx with
  | 0, _ | 1, _ | 2, _ | 3, _ | 4, _ | 5, _ | 6, _ | 7, _ | 8, _ | 9, _ | 10, _ | 11, _ | 12, _ | 13, _ => rfl
theorem rd_put {w : World} {b : Nat} {s : ByteArray} {a : Int} {F : Fact} (h : w.heap[b]? = some (rdObj s a F)) {x : Nat} (hx : x < 14) (n : Int) : (w.setCell ⟨b, 2 + cellOf x, none⟩ (.int .i64 n)).heap[b]? = some (rdObj s a (set F n x)) := by
  have h2 := block_set h (o := 2 + cellOf x) (.int .i64 n)
  rw [h2]
  match x, hx with
  | 0, _ | 1, _ | 2, _ | 3, _ | 4, _ | 5, _ | 6, _ | 7, _ | 8, _ | 9, _ | 10, _ | 11, _ | 12, _ | 13, _ => rfl
set_option maxRecDepth 100000 in
set_option maxHeartbeats 2000000 in
theorem place_at (b x : Nat) (hx : x < 14) (w : World) : Calls Tryd.prog 52 #[.pointer (some ⟨b, 2, none⟩), .int .i64 (x : Int)] w fun e w' => e = .returned (.pointer (some ⟨b, 2 + cellOf x, none⟩)) ∧ w' = w := by
  match x, hx with
  | 0, _ | 1, _ | 2, _ | 3, _ | 4, _ | 5, _ | 6, _ | 7, _ | 8, _ | 9, _ | 10, _ | 11, _ | 12, _ | 13, _ =>
    go_enter Tryd.func52, Tryd.ntmps52
    go_wp2_with fail
    go_ret
    exact ⟨rfl, rfl⟩
theorem run_loadFactRd {w : World} {b : Nat} {s : ByteArray} {a : Int} {F : Fact} (h : w.heap[b]? = some (rdObj s a F)) : (loadVar 23 ⟨b, 2, none⟩).run Tryd.prog w = .ok (factV F) w :=
  run_loadVar_mid w b 2 23 (factC F).toList _ (fun j v hj => box_cell h (2 + j) v (by
    have hlt := (List.getElem?_eq_some_iff.1 hj).1
    have : j < 19 := hlt
    match j, this with
    | 0, _ | 1, _ | 2, _ | 3, _ | 4, _ | 5, _ | 6, _ | 7, _ | 8, _ | 9, _ | 10, _ | 11, _ | 12, _ | 13, _ | 14, _ | 15, _ | 16, _ | 17, _ | 18, _ => exact hj)) Tryd.underlying23 rfl factInfo
theorem wpList_load_rd {ops : Array Oper} {rest : List Oper} {o : Oper} {a : Act} {w : World} {Q : Exit → Act → World → Prop} (hgd : o.guard = none) (x : Operand) (ho : o.op = .load 23 x) (b : Nat) (hx : a.eval x = .pointer (some ⟨b, 2, none⟩)) (s : ByteArray) (at' : Int) (G : Fact) (h : w.heap[b]? = some (rdObj s at' G))
    (hK : wpList Tryd.prog ops Q rest (a.put o.dst (factV G)) w) : wpList Tryd.prog ops Q (o :: rest) a w := by
  refine wpList_plain hgd fun _ hK2 => ?_
  unfold Oper.wp execOp
  simp only [ho, hx, Instr.loadAt, Instr.sureAddr, Sem.run_bind, Sem.run_pure, Result.andThen_ok, run_loadFactRd h]
  exact hK2 _ _ hK
def afterL (L : List UInt8) (g : Int) : Option (Fact × Int) → Except Int Fact
  | some (F, a') => textR L F g a'
  | none => .error 10
theorem numsR_is (L : List UInt8) (k v d g a : Int) : numsR L k v d g a = afterL L g (rdL L (fieldsL k) a (zeroF k v d)) := by
  unfold numsR; cases rdL L (fieldsL k) a (zeroF k v d) <;> rfl
/-- What readFact leaves in the reader's box. -/
def ReadPost (s : ByteArray) (b : Nat) (w : World) : Except Int Fact → Ending → World → Prop
  | .ok F, e, w' => e = .returned (.tuple #[]) ∧ Ch (fun k => k = b) w w' ∧ ∃ a, w'.heap[b]? = some (rdObj s a F)
  | .error n, e, w' => e = stopped n ∧ Ch (fun k => k = b) w w'
theorem tab_ne {b : Nat} {s : ByteArray} {w : World} (ht : Tab w) (h : w.cell? ⟨b, 0, none⟩ = some (.string s)) : b ≠ 0 := by
  rintro rfl
  have := (ht.2 0 (by omega)).1
  rw [show 0 * 2 = 0 from rfl, h] at this
  injection this with this; cases this
theorem ch1 {w w' : World} {b : Nat} (h : Ch (fun k => k = b) w w') (o : Nat) (v : Value) : Ch (fun k => k = b) w (w'.setCell ⟨b, o, none⟩ v) := h.trans (one_ch w' b o v) (fun _ _ e => e)
theorem rdL_tx {L : List UInt8} : ∀ (l : List Nat) (a : Int) (F G : Fact) (a' : Int), rdL L l a F = some (G, a') → G.tx = F.tx ∧ G.k = F.k
  | [], a, F, G, a', h => by unfold rdL at h; injection h with h; injection h with h1 _; rw [← h1]; exact ⟨rfl, rfl⟩
  | x :: l, a, F, G, a', h => by
    unfold rdL at h
    split at h
    · have h1 := rdL_tx l _ _ G a' h
      have h2 := set_k F (Wa.Enc.intV L a).1 x
      exact ⟨h1.1.trans h2.2.2.2.2, h1.2.trans h2.1⟩
    · cases h
set_option maxRecDepth 100000 in
set_option maxHeartbeats 16000000 in
theorem readFact_any (b : Nat) (s : ByteArray) (w : World) (hb : w.heap[b]? = some (rdObj s 0 (zeroF 0 0 0))) (hs : s.size ≤ maxLen) (ht : Tab w) :
    Calls Tryd.prog 41 #[.pointer (some ⟨b, 0, none⟩)] w (ReadPost s b w (decR s.data.toList)) := by
  have HNe := Lib.hid (tab_ne ht (box_cell hb 0 _ rfl))
  have HT := Lib.hid ht
  have HSz := Lib.hid hs
  have HB0 := Lib.hid hb
  have HC0 := Lib.hid (Ch.refl (fun k => k = b) w)
  obtain ⟨R, hR⟩ : ∃ R, decR s.data.toList = R := ⟨_, rfl⟩
  rw [hR]
  have HR := Lib.hid hR.symm
  clear ht hs hb hR
  go_enter Tryd.func41, Tryd.ntmps41
  obtain ⟨K1, A1, E1, h1⟩ : ∃ x y z, Wa.Enc.intV s.data.toList 0 = (x, y, z) := ⟨_, _, _, rfl⟩
  by_cases e1 : E1 = 0
  case neg =>
    have HRe := Lib.hid (show R = .error 10 from by rw [HR.out]; unfold decR; rw [h1]; simp only; rw [if_neg e1])
    have NU := Lib.hid (number_no b s 0 K1 A1 E1 w (box_cell HB0.out 0 _ rfl) (box_cell HB0.out 1 _ rfl) HSz.out h1 e1)
    have FIN := Lib.hid (show Ch (fun k => k = b) w w.drew from HC0.out.drewN 1)
    clear h1 e1
    go_wp2_with fail
    refine NU.out.mono ?_; rintro e wz ⟨rfl, rfl⟩
    go_wp2_with fail
    refine ⟨rfl, ?_⟩
    rw [HRe.out]
    exact ⟨rfl, FIN.out⟩
  subst e1
  replace HR := Lib.hid (show R = if within K1 1 11 then headR1 s.data.toList K1 A1 else .error 150 from by rw [HR.out]; unfold decR; rw [h1]; simp only; rw [if_pos trivial])
  have NU := Lib.hid (number_yes b s 0 K1 A1 w (box_cell HB0.out 0 _ rfl) (box_cell HB0.out 1 _ rfl) (box_fz HB0.out 1) HSz.out h1)
  have HBa1 := Lib.hid (show (w.drew.setCell ⟨b, 1, none⟩ (.int .i64 A1)).heap[b]? = some (rdObj s A1 (zeroF 0 0 0)) from block_set (show w.drew.heap[b]? = _ from HB0.out) (o := 1) _)
  have HCa1 := Lib.hid (show Ch (fun k => k = b) w (w.drew.setCell ⟨b, 1, none⟩ (.int .i64 A1)) from ch1 (HC0.out.drewN 1) 1 (.int .i64 A1))
  clear HB0 HC0
  have HI1 := Lib.hid h1
  clear h1
  go_wp2_with fail
  refine NU.out.mono ?_; rintro e wz ⟨rfl, rfl⟩
  clear NU
  generalize w.drew.setCell ⟨b, 1, none⟩ (.int .i64 A1) = wa1 at *
  have kk := box_cell HBa1.out 2 _ rfl
  have zz := box_fz HBa1.out 2
  have ll := lt_of_block HBa1.out
  have HBb1 := Lib.hid (show (wa1.setCell ⟨b, 2, none⟩ (.int .i64 K1)).heap[b]? = some (rdObj s A1 (zeroF K1 0 0)) from block_set HBa1.out (o := 2) _)
  have HCb1 := Lib.hid (show Ch (fun k => k = b) w (wa1.setCell ⟨b, 2, none⟩ (.int .i64 K1)) from ch1 HCa1.out 2 (.int .i64 K1))
  go_upto_region 1 with (fail)
  clear kk zz ll HBa1 HCa1
  generalize wa1.setCell ⟨b, 2, none⟩ (.int .i64 K1) = wb1 at *
  have c2 := box_cell HBb1.out 2 (.int .i64 K1) rfl
  have HWi := Lib.hid (fun V => within_any K1 1 11 V)
  cases hw : within K1 1 11 with
  | false =>
    rw [hw] at HWi HR
    have HRe := Lib.hid (show R = .error 150 from by rw [HR.out]; rfl)
    go_wp2_with fail
    refine (HWi.out _).mono ?_; rintro e wz ⟨rfl, rfl⟩
    go_wp2_with fail
    refine (require_no 150 _).mono ?_; rintro e wz ⟨rfl, rfl⟩
    go_wp2_with fail
    refine ⟨rfl, ?_⟩
    rw [HRe.out]
    exact ⟨rfl, HCb1.out⟩
  | true =>
    rw [hw] at HWi HR
    replace HR := Lib.hid (show R = headR1 s.data.toList K1 A1 from by rw [HR.out]; rfl)
    clear hw
    go_wp2_with fail
    refine (HWi.out _).mono ?_; rintro e wz ⟨rfl, rfl⟩
    go_wp2_with fail
    refine (require_yes 150 _).mono ?_; rintro e wz ⟨rfl, rfl⟩
    clear HWi c2
    obtain ⟨K2, A2, E2, h2⟩ : ∃ x y z, Wa.Enc.intV s.data.toList A1 = (x, y, z) := ⟨_, _, _, rfl⟩
    by_cases e2 : E2 = 0
    case neg =>
      have HRe := Lib.hid (show R = .error 10 from by rw [HR.out]; unfold headR1; rw [h2]; simp only; rw [if_neg e2])
      have NU := Lib.hid (number_no b s A1 K2 A2 E2 wz (box_cell HBb1.out 0 _ rfl) (box_cell HBb1.out 1 _ rfl) HSz.out h2 e2)
      have FIN := Lib.hid (show Ch (fun k => k = b) w wz.drew from HCb1.out.drewN 1)
      clear h2 e2
      go_wp2_with fail
      refine NU.out.mono ?_; rintro e wz ⟨rfl, rfl⟩
      go_wp2_with fail
      refine ⟨rfl, ?_⟩
      rw [HRe.out]
      exact ⟨rfl, FIN.out⟩
    subst e2
    replace HR := Lib.hid (show R = headR2 s.data.toList K1 K2 A2 from by rw [HR.out]; unfold headR1; rw [h2]; simp only; rw [if_pos trivial])
    have NU := Lib.hid (number_yes b s A1 K2 A2 wz (box_cell HBb1.out 0 _ rfl) (box_cell HBb1.out 1 _ rfl) (box_fz HBb1.out 1) HSz.out h2)
    have HBa2 := Lib.hid (show (wz.drew.setCell ⟨b, 1, none⟩ (.int .i64 A2)).heap[b]? = some (rdObj s A2 (zeroF K1 0 0)) from block_set (show wz.drew.heap[b]? = _ from HBb1.out) (o := 1) _)
    have HCa2 := Lib.hid (show Ch (fun k => k = b) w (wz.drew.setCell ⟨b, 1, none⟩ (.int .i64 A2)) from ch1 (HCb1.out.drewN 1) 1 (.int .i64 A2))
    clear HBb1 HCb1
    have HI2 := Lib.hid h2
    clear h2
    go_wp2_with fail
    refine NU.out.mono ?_; rintro e wz ⟨rfl, rfl⟩
    clear NU
    generalize wz.drew.setCell ⟨b, 1, none⟩ (.int .i64 A2) = wa2 at *
    have kk := box_cell HBa2.out 4 _ rfl
    have zz := box_fz HBa2.out 4
    have ll := lt_of_block HBa2.out
    have HBb2 := Lib.hid (show (wa2.setCell ⟨b, 4, none⟩ (.int .i64 K2)).heap[b]? = some (rdObj s A2 (zeroF K1 K2 0)) from block_set HBa2.out (o := 4) _)
    have HCb2 := Lib.hid (show Ch (fun k => k = b) w (wa2.setCell ⟨b, 4, none⟩ (.int .i64 K2)) from ch1 HCa2.out 4 (.int .i64 K2))
    go_upto_region 3 with (fail)
    clear kk zz ll HBa2 HCa2
    generalize wa2.setCell ⟨b, 4, none⟩ (.int .i64 K2) = wb2 at *
    obtain ⟨K3, A3, E3, h3⟩ : ∃ x y z, Wa.Enc.intV s.data.toList A2 = (x, y, z) := ⟨_, _, _, rfl⟩
    by_cases e3 : E3 = 0
    case neg =>
      have HRe := Lib.hid (show R = .error 10 from by rw [HR.out]; unfold headR2; rw [h3]; simp only; rw [if_neg e3])
      have NU := Lib.hid (number_no b s A2 K3 A3 E3 wb2 (box_cell HBb2.out 0 _ rfl) (box_cell HBb2.out 1 _ rfl) HSz.out h3 e3)
      have FIN := Lib.hid (show Ch (fun k => k = b) w wb2.drew from HCb2.out.drewN 1)
      clear h3 e3
      go_wp2_with fail
      refine NU.out.mono ?_; rintro e wz ⟨rfl, rfl⟩
      go_wp2_with fail
      refine ⟨rfl, ?_⟩
      rw [HRe.out]
      exact ⟨rfl, FIN.out⟩
    subst e3
    replace HR := Lib.hid (show R = headR3 s.data.toList K1 K2 K3 A3 from by rw [HR.out]; unfold headR2; rw [h3]; simp only; rw [if_pos trivial])
    have NU := Lib.hid (number_yes b s A2 K3 A3 wb2 (box_cell HBb2.out 0 _ rfl) (box_cell HBb2.out 1 _ rfl) (box_fz HBb2.out 1) HSz.out h3)
    have HBa3 := Lib.hid (show (wb2.drew.setCell ⟨b, 1, none⟩ (.int .i64 A3)).heap[b]? = some (rdObj s A3 (zeroF K1 K2 0)) from block_set (show wb2.drew.heap[b]? = _ from HBb2.out) (o := 1) _)
    have HCa3 := Lib.hid (show Ch (fun k => k = b) w (wb2.drew.setCell ⟨b, 1, none⟩ (.int .i64 A3)) from ch1 (HCb2.out.drewN 1) 1 (.int .i64 A3))
    clear HBb2 HCb2
    have HI3 := Lib.hid h3
    clear h3
    go_wp2_with fail
    refine NU.out.mono ?_; rintro e wz ⟨rfl, rfl⟩
    clear NU
    generalize wb2.drew.setCell ⟨b, 1, none⟩ (.int .i64 A3) = wa3 at *
    have kk := box_cell HBa3.out 5 _ rfl
    have zz := box_fz HBa3.out 5
    have ll := lt_of_block HBa3.out
    have HBb3 := Lib.hid (show (wa3.setCell ⟨b, 5, none⟩ (.int .i64 K3)).heap[b]? = some (rdObj s A3 (zeroF K1 K2 K3)) from block_set HBa3.out (o := 5) _)
    have HCb3 := Lib.hid (show Ch (fun k => k = b) w (wa3.setCell ⟨b, 5, none⟩ (.int .i64 K3)) from ch1 HCa3.out 5 (.int .i64 K3))
    go_upto_region 4 with (fail)
    clear kk zz ll HBa3 HCa3
    generalize wa3.setCell ⟨b, 5, none⟩ (.int .i64 K3) = wb3 at *
    obtain ⟨K4, A4, E4, h4⟩ : ∃ x y z, Wa.Enc.intV s.data.toList A3 = (x, y, z) := ⟨_, _, _, rfl⟩
    by_cases e4 : E4 = 0
    case neg =>
      have HRe := Lib.hid (show R = .error 10 from by rw [HR.out]; unfold headR3; rw [h4]; simp only; rw [if_neg e4])
      have NU := Lib.hid (number_no b s A3 K4 A4 E4 wb3 (box_cell HBb3.out 0 _ rfl) (box_cell HBb3.out 1 _ rfl) HSz.out h4 e4)
      have FIN := Lib.hid (show Ch (fun k => k = b) w wb3.drew from HCb3.out.drewN 1)
      clear h4 e4
      go_wp2_with fail
      refine NU.out.mono ?_; rintro e wz ⟨rfl, rfl⟩
      go_wp2_with fail
      refine ⟨rfl, ?_⟩
      rw [HRe.out]
      exact ⟨rfl, FIN.out⟩
    subst e4
    replace HR := Lib.hid (show R = numsR s.data.toList K1 K2 K3 K4 A4 from by rw [HR.out]; unfold headR3; rw [h4]; simp only; rw [if_pos trivial])
    have NU := Lib.hid (number_yes b s A3 K4 A4 wb3 (box_cell HBb3.out 0 _ rfl) (box_cell HBb3.out 1 _ rfl) (box_fz HBb3.out 1) HSz.out h4)
    have HBa4 := Lib.hid (show (wb3.drew.setCell ⟨b, 1, none⟩ (.int .i64 A4)).heap[b]? = some (rdObj s A4 (zeroF K1 K2 K3)) from block_set (show wb3.drew.heap[b]? = _ from HBb3.out) (o := 1) _)
    have HCa4 := Lib.hid (show Ch (fun k => k = b) w (wb3.drew.setCell ⟨b, 1, none⟩ (.int .i64 A4)) from ch1 (HCb3.out.drewN 1) 1 (.int .i64 A4))
    clear HBb3 HCb3
    have HI4 := Lib.hid h4
    clear h4
    go_wp2_with fail
    refine NU.out.mono ?_; rintro e wz ⟨rfl, rfl⟩
    clear NU
    generalize wb3.drew.setCell ⟨b, 1, none⟩ (.int .i64 A4) = wa4 at *
    have c2 := box_cell HBa4.out 2 (.int .i64 K1) rfl
    go_upto_region 5 with (fail)
    go_wp2_with fail
    refine (fields_any K1 wa4).mono ?_; rintro e w5 ⟨ra, rc, rfl, hr, hrb, g5⟩
    have HRow := Lib.hid hr
    have HRb := Lib.hid (show ∀ x, ra = some x → ¬ x.block = b from fun x hx e => by have h1 := hrb x hx; have h2 := lt_of_block HBa4.out; omega)
    have HB5 := Lib.hid (box_below HBa4.out g5)
    have HC5 := Lib.hid (HCa4.out.trans (Ch.ofBelow (S := fun k => k = b) g5) (fun _ _ e => e))
    have HLn := Lib.hid (fields_len K1)
    have H14 := Lib.hid (fields_lt (k := K1))
    obtain ⟨X, hX⟩ : ∃ X, rdL s.data.toList (fieldsL K1) A4 (zeroF K1 K2 K3) = X := ⟨_, rfl⟩
    replace HR := Lib.hid (show R = afterL s.data.toList K4 X from by rw [HR.out, ← hX]; exact numsR_is _ _ _ _ _ _)
    have HX0 := Lib.hid hX
    have HXg := Lib.hid hX
    clear hr hrb g5 c2 HBa4 HCa4 hX
    go_wp2_with fail
    go_loopw [47] (fun i wr => ∃ (j : Nat) (a : Int) (G : Fact), j ≤ (fieldsL K1).length ∧ i = .int .i64 (j : Int) ∧ Hid (wr.heap[b]? = some (rdObj s a G)) ∧ Hid (Ch (fun k => k = b) w5 wr) ∧ Hid (rdL s.data.toList ((fieldsL K1).drop j) a G = X)) (fun i _ => (fieldsL K1).length - (intOf i).toNat)
    case atStart => exact ⟨0, _, _, Nat.zero_le _, rfl, HB5, Lib.hid (Ch.refl _ _), HX0⟩
    case round =>
      obtain ⟨j, a, G, hj, rfl, HBj, HCj, HXj⟩ := hrel
      clear HX0 HB5
      by_cases hlt : j < (fieldsL K1).length
      · obtain ⟨rb, ro, rfl, hrb, hc⟩ := (HRow.out.ch HCj.out HRb.out).at (show 0 < (fieldsL K1).length by omega)
        have x0 : wr.cell? ⟨rb, ro + j * 1 + 0, none⟩ = some (.int .i64 ((fieldsL K1)[j] : Int)) := hc j hlt 0 _ rfl
        simp only [Nat.mul_one, Nat.add_zero] at x0
        have hx := H14.out _ (List.getElem_mem hlt)
        replace HXj := Lib.hid (show rdL s.data.toList ((fieldsL K1)[j] :: (fieldsL K1).drop (j + 1)) a G = X from by rw [← List.drop_eq_getElem_cons hlt]; exact HXj.out)
        have j0 : (0 : Int) ≤ (j : Int) := by omega
        have j1 : (j : Int) < ((fieldsL K1).length : Int) := by omega
        have j2 : (j : Int) < 11 := by have := HLn.out; omega
        clear hc
        generalize (fieldsL K1)[j] = x at *
        have HPl := Lib.hid (fun v => place_at b x hx v)
        obtain ⟨K5, A5, E5, h5⟩ : ∃ x y z, Wa.Enc.intV s.data.toList a = (x, y, z) := ⟨_, _, _, rfl⟩
        by_cases e5 : E5 = 0
        case neg =>
          have HXn := Lib.hid (show X = none from by rw [← HXj.out]; unfold rdL; rw [h5]; simp only; rw [if_neg e5])
          have HRe := Lib.hid (show R = .error 10 from by rw [HR.out, HXn.out]; rfl)
          have NU := Lib.hid (number_no b s a K5 A5 E5 wr.drew (box_cell HBj.out 0 _ rfl) (box_cell HBj.out 1 _ rfl) HSz.out h5 e5)
          have FIN := Lib.hid (show Ch (fun k => k = b) w wr.drew.drew from (HC5.out.trans HCj.out (fun _ _ e => e)).drewN 2)
          clear h5 e5
          go_wp2_with fail
          refine wp_region_held_drew (S := (fun _ => True)) (by kernel_rfl) (trivial) (fun hHeld => ?_)
          refine wpAnyH_take (i := 0) (oi := { dst := some 51, op := Op.move (Operand.tmp 0), type := 55, pos := "code.go:78", after := #[], guard := none }) (v := ?vln0) rfl (by kernel_rfl) (by kernel_rfl) (by kernel_rfl) (fun _ _ _ h => h) (Or.inl ⟨by rfl, ?yln0⟩) (by assumption) ?tln0
          case yln0 => (intro wz hSw; clear hSw; go_simp; try with_reducible rfl)
          simp only [Act.put, List.setIfInBounds_toArray, List.set_cons_zero, List.set_cons_succ]
          refine wpAnyH_take (i := 1) (oi := { dst := some 52, op := Op.nilCheck (Operand.tmp 51), type := 0, pos := "code.go:78", after := #[{ on := 0, ground := Ground.data }], guard := none }) (v := ?vln1) rfl (by kernel_rfl) (by kernel_rfl) (by kernel_rfl) (fun _ _ _ h => h) (Or.inl ⟨by rfl, ?yln1⟩) (by assumption) ?tln1
          case yln1 => (intro wz hSw; clear hSw; go_simp; try with_reducible rfl)
          simp only [Act.put, List.setIfInBounds_toArray, List.set_cons_zero, List.set_cons_succ]
          refine wpAnyH_take (i := 2) (oi := { dst := some 53, op := Op.fieldAddr 59 (Operand.tmp 52) 1, type := 0, pos := "code.go:78", after := #[{ on := 1, ground := Ground.data }], guard := none }) (v := ?vln2) rfl (by kernel_rfl) (by kernel_rfl) (by kernel_rfl) (fun _ _ _ h => h) (Or.inl ⟨by rfl, ?yln2⟩) (by assumption) ?tln2
          case yln2 => (intro wz hSw; clear hSw; go_simp; try with_reducible rfl)
          simp only [Act.put, List.setIfInBounds_toArray, List.set_cons_zero, List.set_cons_succ]
          refine wpAnyH_take (i := 3) (oi := { dst := some 54, op := Op.move (Operand.tmp 4), type := 84, pos := "code.go:78", after := #[], guard := none }) (v := ?vln3) rfl (by kernel_rfl) (by kernel_rfl) (by kernel_rfl) (fun _ _ _ h => h) (Or.inl ⟨by rfl, ?yln3⟩) (by assumption) ?tln3
          case yln3 => (intro wz hSw; clear hSw; go_simp; try with_reducible rfl)
          simp only [Act.put, List.setIfInBounds_toArray, List.set_cons_zero, List.set_cons_succ]
          refine wpAnyH_take (i := 5) (oi := { dst := some 56, op := Op.move (Operand.tmp 0), type := 55, pos := "code.go:78", after := #[], guard := none }) (v := ?vln5) rfl (by kernel_rfl) (by kernel_rfl) (by kernel_rfl) (fun _ _ _ h => h) (Or.inl ⟨by rfl, ?yln5⟩) (by assumption) ?tln5
          case yln5 => (intro wz hSw; clear hSw; go_simp; try with_reducible rfl)
          simp only [Act.put, List.setIfInBounds_toArray, List.set_cons_zero, List.set_cons_succ]
          refine wpAnyH_take (i := 6) (oi := { dst := some 57, op := Op.nilCheck (Operand.tmp 56), type := 0, pos := "code.go:78", after := #[{ on := 5, ground := Ground.data }], guard := none }) (v := ?vln6) rfl (by kernel_rfl) (by kernel_rfl) (by kernel_rfl) (fun _ _ _ h => h) (Or.inl ⟨by rfl, ?yln6⟩) (by assumption) ?tln6
          case yln6 => (intro wz hSw; clear hSw; go_simp; try with_reducible rfl)
          simp only [Act.put, List.setIfInBounds_toArray, List.set_cons_zero, List.set_cons_succ]
          refine wpAnyH_take (i := 7) (oi := { dst := some 58, op := Op.fieldAddr 59 (Operand.tmp 57) 0, type := 0, pos := "code.go:78", after := #[{ on := 6, ground := Ground.data }], guard := none }) (v := ?vln7) rfl (by kernel_rfl) (by kernel_rfl) (by kernel_rfl) (fun _ _ _ h => h) (Or.inl ⟨by rfl, ?yln7⟩) (by assumption) ?tln7
          case yln7 => (intro wz hSw; clear hSw; go_simp; try with_reducible rfl)
          simp only [Act.put, List.setIfInBounds_toArray, List.set_cons_zero, List.set_cons_succ]
          refine wpAnyH_ready (rs := [4]) (by kernel_rfl) (by simp) ?_
          refine AllReadyH.cons (o := { dst := some 55, op := Op.call { callee := Callee.value (Operand.func 52), args := #[Operand.tmp 53, Operand.tmp 54], argTypes := #[72, 84] }, type := 73, pos := "code.go:78", after := #[{ on := 2, ground := Ground.data }, { on := 3, ground := Ground.data }], guard := none }) rfl (fun K hK => ?_) AllReadyH.nil
          go_simp
          refine (HPl.out _).mono ?_; rintro e wy ⟨rfl, rfl⟩
          refine hK.out _ _ (trivial) (fun hHeld' => ?_)
          clear hK K hHeld
          have hHeld := hHeld'; clear hHeld'
          try simp only [Act.put, List.setIfInBounds_toArray, List.set_cons_zero, List.set_cons_succ]
          refine wpAnyH_ready (rs := [8]) (by kernel_rfl) (by simp) ?_
          refine AllReadyH.cons (o := { dst := some 59, op := Op.call { callee := Callee.value (Operand.func 54), args := #[Operand.tmp 58], argTypes := #[57] }, type := 3, pos := "code.go:78", after := #[{ on := 7, ground := Ground.data }, { on := 4, ground := Ground.chain }], guard := none }) rfl (fun K hK => ?_) AllReadyH.nil
          go_simp
          refine NU.out.mono ?_; rintro e wy ⟨rfl, rfl⟩
          refine ⟨rfl, ?_⟩
          rw [HRe.out]
          exact ⟨rfl, FIN.out⟩
        subst e5
        replace HXj := Lib.hid (show rdL s.data.toList ((fieldsL K1).drop (j + 1)) A5 (set G K5 x) = X from by rw [← HXj.out]; conv => rhs; unfold rdL; rw [h5]; simp only [if_pos])
        have NU := Lib.hid (number_yes b s a K5 A5 wr.drew (box_cell HBj.out 0 _ rfl) (box_cell HBj.out 1 _ rfl) (box_fz HBj.out 1) HSz.out h5)
        have HBa := Lib.hid (show (wr.drew.drew.setCell ⟨b, 1, none⟩ (.int .i64 A5)).heap[b]? = some (rdObj s A5 G) from block_set (show wr.drew.drew.heap[b]? = _ from HBj.out) (o := 1) _)
        have HCa := Lib.hid (show Ch (fun k => k = b) w5 (wr.drew.drew.setCell ⟨b, 1, none⟩ (.int .i64 A5)) from ch1 (HCj.out.drewN 2) 1 (.int .i64 A5))
        clear h5 HBj HCj
        go_wp2_with fail
        refine wp_region_held_drew (S := (fun _ => True)) (by kernel_rfl) (trivial) (fun hHeld => ?_)
        refine wpAnyH_take (i := 0) (oi := { dst := some 51, op := Op.move (Operand.tmp 0), type := 55, pos := "code.go:78", after := #[], guard := none }) (v := ?vly0) rfl (by kernel_rfl) (by kernel_rfl) (by kernel_rfl) (fun _ _ _ h => h) (Or.inl ⟨by rfl, ?yly0⟩) (by assumption) ?tly0
        case yly0 => (intro wz hSw; clear hSw; go_simp; try with_reducible rfl)
        simp only [Act.put, List.setIfInBounds_toArray, List.set_cons_zero, List.set_cons_succ]
        refine wpAnyH_take (i := 1) (oi := { dst := some 52, op := Op.nilCheck (Operand.tmp 51), type := 0, pos := "code.go:78", after := #[{ on := 0, ground := Ground.data }], guard := none }) (v := ?vly1) rfl (by kernel_rfl) (by kernel_rfl) (by kernel_rfl) (fun _ _ _ h => h) (Or.inl ⟨by rfl, ?yly1⟩) (by assumption) ?tly1
        case yly1 => (intro wz hSw; clear hSw; go_simp; try with_reducible rfl)
        simp only [Act.put, List.setIfInBounds_toArray, List.set_cons_zero, List.set_cons_succ]
        refine wpAnyH_take (i := 2) (oi := { dst := some 53, op := Op.fieldAddr 59 (Operand.tmp 52) 1, type := 0, pos := "code.go:78", after := #[{ on := 1, ground := Ground.data }], guard := none }) (v := ?vly2) rfl (by kernel_rfl) (by kernel_rfl) (by kernel_rfl) (fun _ _ _ h => h) (Or.inl ⟨by rfl, ?yly2⟩) (by assumption) ?tly2
        case yly2 => (intro wz hSw; clear hSw; go_simp; try with_reducible rfl)
        simp only [Act.put, List.setIfInBounds_toArray, List.set_cons_zero, List.set_cons_succ]
        refine wpAnyH_take (i := 3) (oi := { dst := some 54, op := Op.move (Operand.tmp 4), type := 84, pos := "code.go:78", after := #[], guard := none }) (v := ?vly3) rfl (by kernel_rfl) (by kernel_rfl) (by kernel_rfl) (fun _ _ _ h => h) (Or.inl ⟨by rfl, ?yly3⟩) (by assumption) ?tly3
        case yly3 => (intro wz hSw; clear hSw; go_simp; try with_reducible rfl)
        simp only [Act.put, List.setIfInBounds_toArray, List.set_cons_zero, List.set_cons_succ]
        refine wpAnyH_take (i := 5) (oi := { dst := some 56, op := Op.move (Operand.tmp 0), type := 55, pos := "code.go:78", after := #[], guard := none }) (v := ?vly5) rfl (by kernel_rfl) (by kernel_rfl) (by kernel_rfl) (fun _ _ _ h => h) (Or.inl ⟨by rfl, ?yly5⟩) (by assumption) ?tly5
        case yly5 => (intro wz hSw; clear hSw; go_simp; try with_reducible rfl)
        simp only [Act.put, List.setIfInBounds_toArray, List.set_cons_zero, List.set_cons_succ]
        refine wpAnyH_take (i := 6) (oi := { dst := some 57, op := Op.nilCheck (Operand.tmp 56), type := 0, pos := "code.go:78", after := #[{ on := 5, ground := Ground.data }], guard := none }) (v := ?vly6) rfl (by kernel_rfl) (by kernel_rfl) (by kernel_rfl) (fun _ _ _ h => h) (Or.inl ⟨by rfl, ?yly6⟩) (by assumption) ?tly6
        case yly6 => (intro wz hSw; clear hSw; go_simp; try with_reducible rfl)
        simp only [Act.put, List.setIfInBounds_toArray, List.set_cons_zero, List.set_cons_succ]
        refine wpAnyH_take (i := 7) (oi := { dst := some 58, op := Op.fieldAddr 59 (Operand.tmp 57) 0, type := 0, pos := "code.go:78", after := #[{ on := 6, ground := Ground.data }], guard := none }) (v := ?vly7) rfl (by kernel_rfl) (by kernel_rfl) (by kernel_rfl) (fun _ _ _ h => h) (Or.inl ⟨by rfl, ?yly7⟩) (by assumption) ?tly7
        case yly7 => (intro wz hSw; clear hSw; go_simp; try with_reducible rfl)
        simp only [Act.put, List.setIfInBounds_toArray, List.set_cons_zero, List.set_cons_succ]
        refine wpAnyH_ready (rs := [4]) (by kernel_rfl) (by simp) ?_
        refine AllReadyH.cons (o := { dst := some 55, op := Op.call { callee := Callee.value (Operand.func 52), args := #[Operand.tmp 53, Operand.tmp 54], argTypes := #[72, 84] }, type := 73, pos := "code.go:78", after := #[{ on := 2, ground := Ground.data }, { on := 3, ground := Ground.data }], guard := none }) rfl (fun K hK => ?_) AllReadyH.nil
        go_simp
        refine (HPl.out _).mono ?_; rintro e wy ⟨rfl, rfl⟩
        refine hK.out _ _ (trivial) (fun hHeld' => ?_)
        clear hK K hHeld
        have hHeld := hHeld'; clear hHeld'
        try simp only [Act.put, List.setIfInBounds_toArray, List.set_cons_zero, List.set_cons_succ]
        refine wpAnyH_ready (rs := [8]) (by kernel_rfl) (by simp) ?_
        refine AllReadyH.cons (o := { dst := some 59, op := Op.call { callee := Callee.value (Operand.func 54), args := #[Operand.tmp 58], argTypes := #[57] }, type := 3, pos := "code.go:78", after := #[{ on := 7, ground := Ground.data }, { on := 4, ground := Ground.chain }], guard := none }) rfl (fun K hK => ?_) AllReadyH.nil
        go_simp
        refine NU.out.mono ?_; rintro e wy ⟨rfl, rfl⟩
        refine hK.out _ _ (trivial) (fun hHeld' => ?_)
        clear hK K hHeld
        have hHeld := hHeld'; clear hHeld'
        try simp only [Act.put, List.setIfInBounds_toArray, List.set_cons_zero, List.set_cons_succ]
        refine wpAnyH_take (i := 9) (oi := { dst := some 60, op := Op.nilCheck (Operand.tmp 55), type := 0, pos := "code.go:78", after := #[{ on := 4, ground := Ground.data }, { on := 0, ground := Ground.phase }, { on := 1, ground := Ground.phase }, { on := 2, ground := Ground.phase }, { on := 3, ground := Ground.phase }, { on := 4, ground := Ground.phase }, { on := 5, ground := Ground.phase }, { on := 6, ground := Ground.phase }, { on := 7, ground := Ground.phase }, { on := 8, ground := Ground.phase }], guard := none }) (v := ?vly9) rfl (by kernel_rfl) (by kernel_rfl) (by kernel_rfl) (fun _ _ _ h => h) (Or.inl ⟨by rfl, ?yly9⟩) (by assumption) ?tly9
        case yly9 => (intro wz hSw; clear hSw; go_simp; try with_reducible rfl)
        simp only [Act.put, List.setIfInBounds_toArray, List.set_cons_zero, List.set_cons_succ]
        refine wpAnyH_ready (rs := [10]) (by kernel_rfl) (by simp) ?_
        refine AllReadyH.cons (o := { dst := none, op := Op.store 3 (Operand.tmp 60) (Operand.tmp 59), type := 0, pos := "code.go:78", after := #[{ on := 9, ground := Ground.data }, { on := 8, ground := Ground.data }, { on := 8, ground := Ground.chain }, { on := 0, ground := Ground.phase }, { on := 1, ground := Ground.phase }, { on := 2, ground := Ground.phase }, { on := 3, ground := Ground.phase }, { on := 4, ground := Ground.phase }, { on := 5, ground := Ground.phase }, { on := 6, ground := Ground.phase }, { on := 7, ground := Ground.phase }, { on := 8, ground := Ground.phase }], guard := none }) rfl (fun K hK => ?_) AllReadyH.nil
        have HBa2 : Hid ((wr.drew.drew.setCell ⟨b, 1, none⟩ (.int .i64 A5)).heap[b]? = some (rdObj s A5 G)) := HBa
        have HCa2 : Hid (Ch (fun k => k = b) w5 (wr.drew.drew.setCell ⟨b, 1, none⟩ (.int .i64 A5))) := HCa
        clear HBa HCa
        generalize wr.drew.drew.setCell ⟨b, 1, none⟩ (.int .i64 A5) = wq at *
        have kk := rd_cell HBa2.out hx
        have zz := box_fz HBa2.out (2 + cellOf x)
        have ll := lt_of_block HBa2.out
        have HBb := Lib.hid (rd_put HBa2.out hx K5)
        have HCb := Lib.hid (ch1 HCa2.out (2 + cellOf x) (.int .i64 K5))
        generalize cellOf x = ox at *
        go_simp
        clear kk zz ll
        generalize wq.setCell ⟨b, 2 + ox, none⟩ (.int .i64 K5) = wv at *
        refine hK.out _ _ (trivial) (fun hHeld' => ?_)
        clear hK K hHeld
        have hHeld := hHeld'; clear hHeld'
        try simp only [Act.put, List.setIfInBounds_toArray, List.set_cons_zero, List.set_cons_succ]
        refine wpAnyH_done (by kernel_rfl) ?_ _
        clear x0 hHeld
        go_wp2_with fail
        go_roundw
        case rel => exact ⟨j + 1, A5, _, hlt, by go_num, HBb, HCb, HXj⟩
        case measure => simp [intOf]; omega
      · have k1 : ¬ (j : Int) < ((fieldsL K1).length : Int) := by omega
        have hXs : X = some (G, a) := by rw [← HXj.out, List.drop_of_length_le (by omega)]; rfl
        replace HR := Lib.hid (show R = textR s.data.toList G K4 a from by rw [HR.out, hXs]; rfl)
        have hG := rdL_tx _ _ _ _ _ (HXg.out.trans hXs)
        simp only [zeroF] at hG
        obtain ⟨hGt, hGk⟩ := hG
        have HGt := Lib.hid hGt
        have HC6 := Lib.hid (HC5.out.trans HCj.out (fun _ _ e => e))
        have c2 := box_cell HBj.out 2 (.int .i64 G.k) rfl
        clear HXj hXs hGt hGk HXg HCj HC5
        by_cases hk : G.k = 5
        · replace HR := Lib.hid (show R = if (Wa.Enc.strV s.data.toList a).2.2 = 0 then closeR s.data.toList { G with tx := ⟨(Wa.Enc.strV s.data.toList a).1.toArray⟩ } K4 (Wa.Enc.strV s.data.toList a).2.1 else .error 10 from by rw [HR.out]; unfold textR; rw [if_pos hk])
          have hk2 : (G.k == 5) = true := by simpa using hk
          obtain ⟨T6, A6, E6, h6⟩ : ∃ x y z, Wa.Enc.strV s.data.toList a = (x, y, z) := ⟨_, _, _, rfl⟩
          by_cases e6 : E6 = 0
          case neg =>
            have HRe := Lib.hid (show R = .error 10 from by rw [HR.out, h6]; simp only; rw [if_neg e6])
            have NU := Lib.hid (nstr_no b s a A6 E6 T6 wr (box_cell HBj.out 0 _ rfl) (box_cell HBj.out 1 _ rfl) HSz.out h6 e6)
            clear h6 e6
            go_wp2_with fail
            refine NU.out.mono ?_; rintro e wz ⟨rfl, g6⟩
            have FIN := Lib.hid (HC6.out.trans (Ch.ofBelow (S := fun k => k = b) g6) (fun _ _ e => e))
            clear g6
            go_wp2_with fail
            refine ⟨rfl, ?_⟩
            rw [HRe.out]
            exact ⟨rfl, FIN.out⟩
          subst e6
          replace HR := Lib.hid (show R = closeR s.data.toList { G with tx := bs T6 } K4 A6 from by rw [HR.out, h6]; simp only; rw [if_pos trivial])
          have NU := Lib.hid (nstr_yes b s a A6 T6 wr (box_cell HBj.out 0 _ rfl) (box_cell HBj.out 1 _ rfl) (box_fz HBj.out 1) HSz.out h6)
          have HT6 := Lib.hid (Wa.Enc.strV_ok h6).2.2.1
          clear h6
          go_wp2_with fail
          refine NU.out.mono ?_; rintro e wz ⟨rfl, V6, g6, rfl⟩
          have HBa6 := Lib.hid (show (V6.setCell ⟨b, 1, none⟩ (.int .i64 A6)).heap[b]? = some (rdObj s A6 G) from block_set (box_below HBj.out g6) (o := 1) _)
          have HCa6 := Lib.hid (show Ch (fun k => k = b) w (V6.setCell ⟨b, 1, none⟩ (.int .i64 A6)) from ch1 (HC6.out.trans (Ch.ofBelow (S := fun k => k = b) g6) (fun _ _ e => e)) 1 (.int .i64 A6))
          clear g6 NU HBj HC6 c2
          generalize V6.setCell ⟨b, 1, none⟩ (.int .i64 A6) = wa6 at *
          have kk := box_cell HBa6.out 20 _ rfl
          have zz := box_fz HBa6.out 20
          have ll := lt_of_block HBa6.out
          have HBb6 := Lib.hid (show (wa6.setCell ⟨b, 20, none⟩ (.string (bs T6))).heap[b]? = some (rdObj s A6 { G with tx := bs T6 }) from block_set HBa6.out (o := 20) _)
          have HCb6 := Lib.hid (show Ch (fun k => k = b) w (wa6.setCell ⟨b, 20, none⟩ (.string (bs T6))) from ch1 HCa6.out 20 (.string (bs T6)))
          go_upto_region 12 with (fail)
          clear kk zz ll HBa6 HCa6
          have HGx := Lib.hid (show ({ G with tx := bs T6 } : Fact).tx.size ≤ maxLen by show (bs T6).size ≤ maxLen; rw [bs_size]; have := HT6.out; unfold maxLen; omega)
          generalize wa6.setCell ⟨b, 20, none⟩ (.string (bs T6)) = wb6 at *
          generalize ({ G with tx := bs T6 } : Fact) = G2 at *
          by_cases ha : A6 = (s.size : Int)
          case neg =>
            have HRe := Lib.hid (show R = .error 10 from by rw [HR.out]; unfold closeR; rw [if_pos (by simpa using ha)])
            have FIN := Lib.hid (show Ch (fun k => k = b) w wb6.drew from HCb6.out.drewN 1)
            have ha2 : (A6 == (s.size : Int)) = false := by simpa using ha
            clear ha
            go_wp2_with fail
            refine wp_region_held_drew (S := (fun v => v.heap[b]? = some (rdObj s A6 G2))) (by kernel_rfl) (HBb6.out) (fun hHeld => ?_)
            refine wpAnyH_take (i := 0) (oi := { dst := some 76, op := Op.move (Operand.tmp 0), type := 55, pos := "code.go:83", after := #[], guard := none }) (v := ?vtan0) rfl (by kernel_rfl) (by kernel_rfl) (by kernel_rfl) (fun _ _ _ h => h) (Or.inl ⟨by rfl, ?ytan0⟩) (by assumption) ?ttan0
            case ytan0 => (intro wz hSw; clear hSw; go_simp; try with_reducible rfl)
            simp only [Act.put, List.setIfInBounds_toArray, List.set_cons_zero, List.set_cons_succ]
            refine wpAnyH_take (i := 1) (oi := { dst := some 77, op := Op.nilCheck (Operand.tmp 76), type := 0, pos := "code.go:83", after := #[{ on := 0, ground := Ground.data }], guard := none }) (v := ?vtan1) rfl (by kernel_rfl) (by kernel_rfl) (by kernel_rfl) (fun _ _ _ h => h) (Or.inl ⟨by rfl, ?ytan1⟩) (by assumption) ?ttan1
            case ytan1 => (intro wz hSw; clear hSw; go_simp; try with_reducible rfl)
            simp only [Act.put, List.setIfInBounds_toArray, List.set_cons_zero, List.set_cons_succ]
            refine wpAnyH_take (i := 2) (oi := { dst := some 78, op := Op.fieldAddr 59 (Operand.tmp 77) 0, type := 0, pos := "code.go:83", after := #[{ on := 1, ground := Ground.data }], guard := none }) (v := ?vtan2) rfl (by kernel_rfl) (by kernel_rfl) (by kernel_rfl) (fun _ _ _ h => h) (Or.inl ⟨by rfl, ?ytan2⟩) (by assumption) ?ttan2
            case ytan2 => (intro wz hSw; clear hSw; go_simp; try with_reducible rfl)
            simp only [Act.put, List.setIfInBounds_toArray, List.set_cons_zero, List.set_cons_succ]
            refine wpAnyH_take (i := 3) (oi := { dst := some 79, op := Op.fieldAddr 57 (Operand.tmp 78) 1, type := 0, pos := "code.go:83", after := #[{ on := 2, ground := Ground.data }], guard := none }) (v := ?vtan3) rfl (by kernel_rfl) (by kernel_rfl) (by kernel_rfl) (fun _ _ _ h => h) (Or.inl ⟨by rfl, ?ytan3⟩) (by assumption) ?ttan3
            case ytan3 => (intro wz hSw; clear hSw; go_simp; try with_reducible rfl)
            simp only [Act.put, List.setIfInBounds_toArray, List.set_cons_zero, List.set_cons_succ]
            refine wpAnyH_take (i := 4) (oi := { dst := some 80, op := Op.load 3 (Operand.tmp 79), type := 3, pos := "code.go:83", after := #[{ on := 3, ground := Ground.data }], guard := none }) (v := ?vtan4) rfl (by kernel_rfl) (by kernel_rfl) (by kernel_rfl) (fun _ _ _ h => h) (Or.inl ⟨by rfl, ?ytan4⟩) (by assumption) ?ttan4
            case ytan4 => (intro wz hSw; have q0 := box_cell hSw 0 (.string s) rfl; have q1 := box_cell hSw 1 (.int .i64 A6) rfl; clear hSw; go_simp; try with_reducible rfl)
            simp only [Act.put, List.setIfInBounds_toArray, List.set_cons_zero, List.set_cons_succ]
            refine wpAnyH_take (i := 5) (oi := { dst := some 81, op := Op.move (Operand.tmp 0), type := 55, pos := "code.go:83", after := #[], guard := none }) (v := ?vtan5) rfl (by kernel_rfl) (by kernel_rfl) (by kernel_rfl) (fun _ _ _ h => h) (Or.inl ⟨by rfl, ?ytan5⟩) (by assumption) ?ttan5
            case ytan5 => (intro wz hSw; clear hSw; go_simp; try with_reducible rfl)
            simp only [Act.put, List.setIfInBounds_toArray, List.set_cons_zero, List.set_cons_succ]
            refine wpAnyH_take (i := 6) (oi := { dst := some 82, op := Op.nilCheck (Operand.tmp 81), type := 0, pos := "code.go:83", after := #[{ on := 5, ground := Ground.data }], guard := none }) (v := ?vtan6) rfl (by kernel_rfl) (by kernel_rfl) (by kernel_rfl) (fun _ _ _ h => h) (Or.inl ⟨by rfl, ?ytan6⟩) (by assumption) ?ttan6
            case ytan6 => (intro wz hSw; clear hSw; go_simp; try with_reducible rfl)
            simp only [Act.put, List.setIfInBounds_toArray, List.set_cons_zero, List.set_cons_succ]
            refine wpAnyH_take (i := 7) (oi := { dst := some 83, op := Op.fieldAddr 59 (Operand.tmp 82) 0, type := 0, pos := "code.go:83", after := #[{ on := 6, ground := Ground.data }], guard := none }) (v := ?vtan7) rfl (by kernel_rfl) (by kernel_rfl) (by kernel_rfl) (fun _ _ _ h => h) (Or.inl ⟨by rfl, ?ytan7⟩) (by assumption) ?ttan7
            case ytan7 => (intro wz hSw; clear hSw; go_simp; try with_reducible rfl)
            simp only [Act.put, List.setIfInBounds_toArray, List.set_cons_zero, List.set_cons_succ]
            refine wpAnyH_take (i := 8) (oi := { dst := some 84, op := Op.fieldAddr 57 (Operand.tmp 83) 0, type := 0, pos := "code.go:83", after := #[{ on := 7, ground := Ground.data }], guard := none }) (v := ?vtan8) rfl (by kernel_rfl) (by kernel_rfl) (by kernel_rfl) (fun _ _ _ h => h) (Or.inl ⟨by rfl, ?ytan8⟩) (by assumption) ?ttan8
            case ytan8 => (intro wz hSw; clear hSw; go_simp; try with_reducible rfl)
            simp only [Act.put, List.setIfInBounds_toArray, List.set_cons_zero, List.set_cons_succ]
            refine wpAnyH_take (i := 9) (oi := { dst := some 85, op := Op.load 9 (Operand.tmp 84), type := 9, pos := "code.go:83", after := #[{ on := 8, ground := Ground.data }], guard := none }) (v := ?vtan9) rfl (by kernel_rfl) (by kernel_rfl) (by kernel_rfl) (fun _ _ _ h => h) (Or.inl ⟨by rfl, ?ytan9⟩) (by assumption) ?ttan9
            case ytan9 => (intro wz hSw; have q0 := box_cell hSw 0 (.string s) rfl; have q1 := box_cell hSw 1 (.int .i64 A6) rfl; clear hSw; go_simp; try with_reducible rfl)
            simp only [Act.put, List.setIfInBounds_toArray, List.set_cons_zero, List.set_cons_succ]
            refine wpAnyH_take (i := 10) (oi := { dst := some 86, op := Op.call { callee := Callee.builtin Go.Builtin.len, args := #[Operand.tmp 85], argTypes := #[9] }, type := 3, pos := "code.go:83", after := #[{ on := 9, ground := Ground.data }], guard := none }) (v := ?vtan10) rfl (by kernel_rfl) (by kernel_rfl) (by kernel_rfl) (fun _ _ _ h => h) (Or.inl ⟨by rfl, ?ytan10⟩) (by assumption) ?ttan10
            case ytan10 => (intro wz hSw; clear hSw; go_simp; try with_reducible rfl)
            simp only [Act.put, List.setIfInBounds_toArray, List.set_cons_zero, List.set_cons_succ]
            refine wpAnyH_take (i := 11) (oi := { dst := some 87, op := Op.binOp BinOp.eql 3 (Operand.tmp 80) (Operand.tmp 86) 3, type := 4, pos := "code.go:83", after := #[{ on := 4, ground := Ground.data }, { on := 10, ground := Ground.data }], guard := none }) (v := ?vtan11) rfl (by kernel_rfl) (by kernel_rfl) (by kernel_rfl) (fun _ _ _ h => h) (Or.inl ⟨by rfl, ?ytan11⟩) (by assumption) ?ttan11
            case ytan11 => (intro wz hSw; clear hSw; go_simp; try with_reducible rfl)
            simp only [Act.put, List.setIfInBounds_toArray, List.set_cons_zero, List.set_cons_succ]
            refine wpAnyH_ready (rs := [12]) (by kernel_rfl) (by simp) ?_
            refine AllReadyH.cons (o := { dst := some 88, op := Op.call { callee := Callee.value (Operand.func 55), args := #[Operand.tmp 87, Operand.const (Value.int IntKind.i64 10)], argTypes := #[4, 26] }, type := 0, pos := "code.go:83", after := #[{ on := 11, ground := Ground.data }], guard := none }) rfl (fun K hK => ?_) AllReadyH.nil
            go_simp
            refine (require_no 10 _).mono ?_; rintro e wz ⟨rfl, rfl⟩
            refine ⟨rfl, ?_⟩
            rw [HRe.out]
            exact ⟨rfl, FIN.out⟩
          have ha2 : (A6 == (s.size : Int)) = true := by simpa using ha
          go_wp2_with fail
          refine wp_region_held_drew (S := (fun v => v.heap[b]? = some (rdObj s A6 G2))) (by kernel_rfl) (HBb6.out) (fun hHeld => ?_)
          refine wpAnyH_take (i := 0) (oi := { dst := some 76, op := Op.move (Operand.tmp 0), type := 55, pos := "code.go:83", after := #[], guard := none }) (v := ?vtay0) rfl (by kernel_rfl) (by kernel_rfl) (by kernel_rfl) (fun _ _ _ h => h) (Or.inl ⟨by rfl, ?ytay0⟩) (by assumption) ?ttay0
          case ytay0 => (intro wz hSw; clear hSw; go_simp; try with_reducible rfl)
          simp only [Act.put, List.setIfInBounds_toArray, List.set_cons_zero, List.set_cons_succ]
          refine wpAnyH_take (i := 1) (oi := { dst := some 77, op := Op.nilCheck (Operand.tmp 76), type := 0, pos := "code.go:83", after := #[{ on := 0, ground := Ground.data }], guard := none }) (v := ?vtay1) rfl (by kernel_rfl) (by kernel_rfl) (by kernel_rfl) (fun _ _ _ h => h) (Or.inl ⟨by rfl, ?ytay1⟩) (by assumption) ?ttay1
          case ytay1 => (intro wz hSw; clear hSw; go_simp; try with_reducible rfl)
          simp only [Act.put, List.setIfInBounds_toArray, List.set_cons_zero, List.set_cons_succ]
          refine wpAnyH_take (i := 2) (oi := { dst := some 78, op := Op.fieldAddr 59 (Operand.tmp 77) 0, type := 0, pos := "code.go:83", after := #[{ on := 1, ground := Ground.data }], guard := none }) (v := ?vtay2) rfl (by kernel_rfl) (by kernel_rfl) (by kernel_rfl) (fun _ _ _ h => h) (Or.inl ⟨by rfl, ?ytay2⟩) (by assumption) ?ttay2
          case ytay2 => (intro wz hSw; clear hSw; go_simp; try with_reducible rfl)
          simp only [Act.put, List.setIfInBounds_toArray, List.set_cons_zero, List.set_cons_succ]
          refine wpAnyH_take (i := 3) (oi := { dst := some 79, op := Op.fieldAddr 57 (Operand.tmp 78) 1, type := 0, pos := "code.go:83", after := #[{ on := 2, ground := Ground.data }], guard := none }) (v := ?vtay3) rfl (by kernel_rfl) (by kernel_rfl) (by kernel_rfl) (fun _ _ _ h => h) (Or.inl ⟨by rfl, ?ytay3⟩) (by assumption) ?ttay3
          case ytay3 => (intro wz hSw; clear hSw; go_simp; try with_reducible rfl)
          simp only [Act.put, List.setIfInBounds_toArray, List.set_cons_zero, List.set_cons_succ]
          refine wpAnyH_take (i := 4) (oi := { dst := some 80, op := Op.load 3 (Operand.tmp 79), type := 3, pos := "code.go:83", after := #[{ on := 3, ground := Ground.data }], guard := none }) (v := ?vtay4) rfl (by kernel_rfl) (by kernel_rfl) (by kernel_rfl) (fun _ _ _ h => h) (Or.inl ⟨by rfl, ?ytay4⟩) (by assumption) ?ttay4
          case ytay4 => (intro wz hSw; have q0 := box_cell hSw 0 (.string s) rfl; have q1 := box_cell hSw 1 (.int .i64 A6) rfl; clear hSw; go_simp; try with_reducible rfl)
          simp only [Act.put, List.setIfInBounds_toArray, List.set_cons_zero, List.set_cons_succ]
          refine wpAnyH_take (i := 5) (oi := { dst := some 81, op := Op.move (Operand.tmp 0), type := 55, pos := "code.go:83", after := #[], guard := none }) (v := ?vtay5) rfl (by kernel_rfl) (by kernel_rfl) (by kernel_rfl) (fun _ _ _ h => h) (Or.inl ⟨by rfl, ?ytay5⟩) (by assumption) ?ttay5
          case ytay5 => (intro wz hSw; clear hSw; go_simp; try with_reducible rfl)
          simp only [Act.put, List.setIfInBounds_toArray, List.set_cons_zero, List.set_cons_succ]
          refine wpAnyH_take (i := 6) (oi := { dst := some 82, op := Op.nilCheck (Operand.tmp 81), type := 0, pos := "code.go:83", after := #[{ on := 5, ground := Ground.data }], guard := none }) (v := ?vtay6) rfl (by kernel_rfl) (by kernel_rfl) (by kernel_rfl) (fun _ _ _ h => h) (Or.inl ⟨by rfl, ?ytay6⟩) (by assumption) ?ttay6
          case ytay6 => (intro wz hSw; clear hSw; go_simp; try with_reducible rfl)
          simp only [Act.put, List.setIfInBounds_toArray, List.set_cons_zero, List.set_cons_succ]
          refine wpAnyH_take (i := 7) (oi := { dst := some 83, op := Op.fieldAddr 59 (Operand.tmp 82) 0, type := 0, pos := "code.go:83", after := #[{ on := 6, ground := Ground.data }], guard := none }) (v := ?vtay7) rfl (by kernel_rfl) (by kernel_rfl) (by kernel_rfl) (fun _ _ _ h => h) (Or.inl ⟨by rfl, ?ytay7⟩) (by assumption) ?ttay7
          case ytay7 => (intro wz hSw; clear hSw; go_simp; try with_reducible rfl)
          simp only [Act.put, List.setIfInBounds_toArray, List.set_cons_zero, List.set_cons_succ]
          refine wpAnyH_take (i := 8) (oi := { dst := some 84, op := Op.fieldAddr 57 (Operand.tmp 83) 0, type := 0, pos := "code.go:83", after := #[{ on := 7, ground := Ground.data }], guard := none }) (v := ?vtay8) rfl (by kernel_rfl) (by kernel_rfl) (by kernel_rfl) (fun _ _ _ h => h) (Or.inl ⟨by rfl, ?ytay8⟩) (by assumption) ?ttay8
          case ytay8 => (intro wz hSw; clear hSw; go_simp; try with_reducible rfl)
          simp only [Act.put, List.setIfInBounds_toArray, List.set_cons_zero, List.set_cons_succ]
          refine wpAnyH_take (i := 9) (oi := { dst := some 85, op := Op.load 9 (Operand.tmp 84), type := 9, pos := "code.go:83", after := #[{ on := 8, ground := Ground.data }], guard := none }) (v := ?vtay9) rfl (by kernel_rfl) (by kernel_rfl) (by kernel_rfl) (fun _ _ _ h => h) (Or.inl ⟨by rfl, ?ytay9⟩) (by assumption) ?ttay9
          case ytay9 => (intro wz hSw; have q0 := box_cell hSw 0 (.string s) rfl; have q1 := box_cell hSw 1 (.int .i64 A6) rfl; clear hSw; go_simp; try with_reducible rfl)
          simp only [Act.put, List.setIfInBounds_toArray, List.set_cons_zero, List.set_cons_succ]
          refine wpAnyH_take (i := 10) (oi := { dst := some 86, op := Op.call { callee := Callee.builtin Go.Builtin.len, args := #[Operand.tmp 85], argTypes := #[9] }, type := 3, pos := "code.go:83", after := #[{ on := 9, ground := Ground.data }], guard := none }) (v := ?vtay10) rfl (by kernel_rfl) (by kernel_rfl) (by kernel_rfl) (fun _ _ _ h => h) (Or.inl ⟨by rfl, ?ytay10⟩) (by assumption) ?ttay10
          case ytay10 => (intro wz hSw; clear hSw; go_simp; try with_reducible rfl)
          simp only [Act.put, List.setIfInBounds_toArray, List.set_cons_zero, List.set_cons_succ]
          refine wpAnyH_take (i := 11) (oi := { dst := some 87, op := Op.binOp BinOp.eql 3 (Operand.tmp 80) (Operand.tmp 86) 3, type := 4, pos := "code.go:83", after := #[{ on := 4, ground := Ground.data }, { on := 10, ground := Ground.data }], guard := none }) (v := ?vtay11) rfl (by kernel_rfl) (by kernel_rfl) (by kernel_rfl) (fun _ _ _ h => h) (Or.inl ⟨by rfl, ?ytay11⟩) (by assumption) ?ttay11
          case ytay11 => (intro wz hSw; clear hSw; go_simp; try with_reducible rfl)
          simp only [Act.put, List.setIfInBounds_toArray, List.set_cons_zero, List.set_cons_succ]
          refine wpAnyH_ready (rs := [12]) (by kernel_rfl) (by simp) ?_
          refine AllReadyH.cons (o := { dst := some 88, op := Op.call { callee := Callee.value (Operand.func 55), args := #[Operand.tmp 87, Operand.const (Value.int IntKind.i64 10)], argTypes := #[4, 26] }, type := 0, pos := "code.go:83", after := #[{ on := 11, ground := Ground.data }], guard := none }) rfl (fun K hK => ?_) AllReadyH.nil
          go_simp
          refine (require_yes 10 _).mono ?_; rintro e wz ⟨rfl, rfl⟩
          refine hK.out _ _ (hHeld) (fun hHeld' => ?_)
          clear hK K hHeld
          have hHeld := hHeld'; clear hHeld'
          try simp only [Act.put, List.setIfInBounds_toArray, List.set_cons_zero, List.set_cons_succ]
          refine wpAnyH_done (by kernel_rfl) ?_ _
          have HBc := Lib.hid (show wb6.drew.heap[b]? = some (rdObj s A6 G2) from HBb6.out)
          have HCc := Lib.hid (show Ch (fun k => k = b) w wb6.drew from HCb6.out.drewN 1)
          clear HBb6 HCb6 hHeld
          generalize wb6.drew = wc at *
          replace HR := Lib.hid (show R = if within K4 0 1 = false then .error 150 else if validB { G2 with gone := K4 == 1 } then .ok { G2 with gone := K4 == 1 } else .error 150 from by rw [HR.out]; unfold closeR; rw [if_neg (by simpa using ha)])
          clear ha ha2
          have HWi := Lib.hid (fun V => within_any K4 0 1 V)
          cases hw : within K4 0 1 with
          | false =>
            rw [hw] at HWi HR
            clear hw
            have HRe := Lib.hid (show R = .error 150 from by rw [HR.out, if_pos rfl])
            go_wp2_with fail
            refine (HWi.out _).mono ?_; rintro e wz ⟨rfl, rfl⟩
            go_wp2_with fail
            refine (require_no 150 _).mono ?_; rintro e wz ⟨rfl, rfl⟩
            go_wp2_with fail
            refine ⟨rfl, ?_⟩
            rw [HRe.out]
            exact ⟨rfl, HCc.out⟩
          | true =>
            rw [hw] at HWi HR
            clear hw
            replace HR := Lib.hid (show R = if validB { G2 with gone := K4 == 1 } then .ok { G2 with gone := K4 == 1 } else .error 150 from by rw [HR.out, if_neg (by simp)])
            have kk := box_cell HBc.out 6 _ rfl
            have zz := box_fz HBc.out 6
            have ll := lt_of_block HBc.out
            have HBd := Lib.hid (show (wc.setCell ⟨b, 6, none⟩ (.bool (K4 == 1))).heap[b]? = some (rdObj s A6 { G2 with gone := K4 == 1 }) from block_set HBc.out (o := 6) _)
            have HCd := Lib.hid (ch1 HCc.out 6 (.bool (K4 == 1)))
            go_wp2_with fail
            refine (HWi.out _).mono ?_; rintro e wz ⟨rfl, rfl⟩
            go_wp2_with fail
            refine (require_yes 150 _).mono ?_; rintro e wz ⟨rfl, rfl⟩
            go_upto_region 15 with (fail)
            clear kk zz ll HBc HCc HWi
            generalize wz.setCell ⟨b, 6, none⟩ (.bool (K4 == 1)) = wd at *
            have HVa := Lib.hid (valid_any { G2 with gone := K4 == 1 } wd (HT.out.ch HCd.out (fun e => HNe.out e.symm)) HGx.out)
            unfold BoolPost at HVa
            have HGe := Lib.hid (show ∃ F3 : Fact, F3 = { G2 with gone := K4 == 1 } from ⟨_, rfl⟩)
            generalize ({ G2 with gone := K4 == 1 } : Fact) = F3 at *
            generalize validB F3 = B at *
            go_wp2_with (refine wpList_load_rd rfl _ rfl _ rfl s A6 F3 HBd.out ?_)
            refine HVa.out.mono ?_; rintro e we ⟨rfl, ge⟩
            have HBe := Lib.hid (box_below HBd.out ge)
            have HCe := Lib.hid (HCd.out.trans (Ch.ofBelow (S := fun k => k = b) ge) (fun _ _ e => e))
            clear ge
            cases B with
            | false =>
              have HRe := Lib.hid (show R = .error 150 from by rw [HR.out]; rfl)
              go_wp2_with fail
              refine (require_no 150 _).mono ?_; rintro e wz ⟨rfl, rfl⟩
              go_wp2_with fail
              refine ⟨rfl, ?_⟩
              rw [HRe.out]
              exact ⟨rfl, HCe.out⟩
            | true =>
              have HRe := Lib.hid (show R = .ok F3 from by rw [HR.out]; rfl)
              go_wp2_with fail
              refine (require_yes 150 _).mono ?_; rintro e wz ⟨rfl, rfl⟩
              go_wp2_with fail
              first | (refine bodyPost_ret (results_none rfl _ _ _) rfl ?_; rw [HRe.out]; exact ⟨rfl, HCe.out, _, HBe.out⟩) | (go_end0; rw [HRe.out]; exact ⟨rfl, HCe.out, _, HBe.out⟩)
        · replace HR := Lib.hid (show R = closeR s.data.toList G K4 a from by rw [HR.out]; unfold textR; rw [if_neg hk])
          have hk2 : (G.k == 5) = false := by simpa using hk
          go_wp2_with fail
          by_cases ha : a = (s.size : Int)
          case neg =>
            have HRe := Lib.hid (show R = .error 10 from by rw [HR.out]; unfold closeR; rw [if_pos (by simpa using ha)])
            have FIN := Lib.hid (show Ch (fun k => k = b) w wr.drew from HC6.out.drewN 1)
            have ha2 : (a == (s.size : Int)) = false := by simpa using ha
            clear ha
            go_wp2_with fail
            refine wp_region_held_drew (S := (fun v => v.heap[b]? = some (rdObj s a G))) (by kernel_rfl) (HBj.out) (fun hHeld => ?_)
            refine wpAnyH_take (i := 0) (oi := { dst := some 76, op := Op.move (Operand.tmp 0), type := 55, pos := "code.go:83", after := #[], guard := none }) (v := ?vtbn0) rfl (by kernel_rfl) (by kernel_rfl) (by kernel_rfl) (fun _ _ _ h => h) (Or.inl ⟨by rfl, ?ytbn0⟩) (by assumption) ?ttbn0
            case ytbn0 => (intro wz hSw; clear hSw; go_simp; try with_reducible rfl)
            simp only [Act.put, List.setIfInBounds_toArray, List.set_cons_zero, List.set_cons_succ]
            refine wpAnyH_take (i := 1) (oi := { dst := some 77, op := Op.nilCheck (Operand.tmp 76), type := 0, pos := "code.go:83", after := #[{ on := 0, ground := Ground.data }], guard := none }) (v := ?vtbn1) rfl (by kernel_rfl) (by kernel_rfl) (by kernel_rfl) (fun _ _ _ h => h) (Or.inl ⟨by rfl, ?ytbn1⟩) (by assumption) ?ttbn1
            case ytbn1 => (intro wz hSw; clear hSw; go_simp; try with_reducible rfl)
            simp only [Act.put, List.setIfInBounds_toArray, List.set_cons_zero, List.set_cons_succ]
            refine wpAnyH_take (i := 2) (oi := { dst := some 78, op := Op.fieldAddr 59 (Operand.tmp 77) 0, type := 0, pos := "code.go:83", after := #[{ on := 1, ground := Ground.data }], guard := none }) (v := ?vtbn2) rfl (by kernel_rfl) (by kernel_rfl) (by kernel_rfl) (fun _ _ _ h => h) (Or.inl ⟨by rfl, ?ytbn2⟩) (by assumption) ?ttbn2
            case ytbn2 => (intro wz hSw; clear hSw; go_simp; try with_reducible rfl)
            simp only [Act.put, List.setIfInBounds_toArray, List.set_cons_zero, List.set_cons_succ]
            refine wpAnyH_take (i := 3) (oi := { dst := some 79, op := Op.fieldAddr 57 (Operand.tmp 78) 1, type := 0, pos := "code.go:83", after := #[{ on := 2, ground := Ground.data }], guard := none }) (v := ?vtbn3) rfl (by kernel_rfl) (by kernel_rfl) (by kernel_rfl) (fun _ _ _ h => h) (Or.inl ⟨by rfl, ?ytbn3⟩) (by assumption) ?ttbn3
            case ytbn3 => (intro wz hSw; clear hSw; go_simp; try with_reducible rfl)
            simp only [Act.put, List.setIfInBounds_toArray, List.set_cons_zero, List.set_cons_succ]
            refine wpAnyH_take (i := 4) (oi := { dst := some 80, op := Op.load 3 (Operand.tmp 79), type := 3, pos := "code.go:83", after := #[{ on := 3, ground := Ground.data }], guard := none }) (v := ?vtbn4) rfl (by kernel_rfl) (by kernel_rfl) (by kernel_rfl) (fun _ _ _ h => h) (Or.inl ⟨by rfl, ?ytbn4⟩) (by assumption) ?ttbn4
            case ytbn4 => (intro wz hSw; have q0 := box_cell hSw 0 (.string s) rfl; have q1 := box_cell hSw 1 (.int .i64 a) rfl; clear hSw; go_simp; try with_reducible rfl)
            simp only [Act.put, List.setIfInBounds_toArray, List.set_cons_zero, List.set_cons_succ]
            refine wpAnyH_take (i := 5) (oi := { dst := some 81, op := Op.move (Operand.tmp 0), type := 55, pos := "code.go:83", after := #[], guard := none }) (v := ?vtbn5) rfl (by kernel_rfl) (by kernel_rfl) (by kernel_rfl) (fun _ _ _ h => h) (Or.inl ⟨by rfl, ?ytbn5⟩) (by assumption) ?ttbn5
            case ytbn5 => (intro wz hSw; clear hSw; go_simp; try with_reducible rfl)
            simp only [Act.put, List.setIfInBounds_toArray, List.set_cons_zero, List.set_cons_succ]
            refine wpAnyH_take (i := 6) (oi := { dst := some 82, op := Op.nilCheck (Operand.tmp 81), type := 0, pos := "code.go:83", after := #[{ on := 5, ground := Ground.data }], guard := none }) (v := ?vtbn6) rfl (by kernel_rfl) (by kernel_rfl) (by kernel_rfl) (fun _ _ _ h => h) (Or.inl ⟨by rfl, ?ytbn6⟩) (by assumption) ?ttbn6
            case ytbn6 => (intro wz hSw; clear hSw; go_simp; try with_reducible rfl)
            simp only [Act.put, List.setIfInBounds_toArray, List.set_cons_zero, List.set_cons_succ]
            refine wpAnyH_take (i := 7) (oi := { dst := some 83, op := Op.fieldAddr 59 (Operand.tmp 82) 0, type := 0, pos := "code.go:83", after := #[{ on := 6, ground := Ground.data }], guard := none }) (v := ?vtbn7) rfl (by kernel_rfl) (by kernel_rfl) (by kernel_rfl) (fun _ _ _ h => h) (Or.inl ⟨by rfl, ?ytbn7⟩) (by assumption) ?ttbn7
            case ytbn7 => (intro wz hSw; clear hSw; go_simp; try with_reducible rfl)
            simp only [Act.put, List.setIfInBounds_toArray, List.set_cons_zero, List.set_cons_succ]
            refine wpAnyH_take (i := 8) (oi := { dst := some 84, op := Op.fieldAddr 57 (Operand.tmp 83) 0, type := 0, pos := "code.go:83", after := #[{ on := 7, ground := Ground.data }], guard := none }) (v := ?vtbn8) rfl (by kernel_rfl) (by kernel_rfl) (by kernel_rfl) (fun _ _ _ h => h) (Or.inl ⟨by rfl, ?ytbn8⟩) (by assumption) ?ttbn8
            case ytbn8 => (intro wz hSw; clear hSw; go_simp; try with_reducible rfl)
            simp only [Act.put, List.setIfInBounds_toArray, List.set_cons_zero, List.set_cons_succ]
            refine wpAnyH_take (i := 9) (oi := { dst := some 85, op := Op.load 9 (Operand.tmp 84), type := 9, pos := "code.go:83", after := #[{ on := 8, ground := Ground.data }], guard := none }) (v := ?vtbn9) rfl (by kernel_rfl) (by kernel_rfl) (by kernel_rfl) (fun _ _ _ h => h) (Or.inl ⟨by rfl, ?ytbn9⟩) (by assumption) ?ttbn9
            case ytbn9 => (intro wz hSw; have q0 := box_cell hSw 0 (.string s) rfl; have q1 := box_cell hSw 1 (.int .i64 a) rfl; clear hSw; go_simp; try with_reducible rfl)
            simp only [Act.put, List.setIfInBounds_toArray, List.set_cons_zero, List.set_cons_succ]
            refine wpAnyH_take (i := 10) (oi := { dst := some 86, op := Op.call { callee := Callee.builtin Go.Builtin.len, args := #[Operand.tmp 85], argTypes := #[9] }, type := 3, pos := "code.go:83", after := #[{ on := 9, ground := Ground.data }], guard := none }) (v := ?vtbn10) rfl (by kernel_rfl) (by kernel_rfl) (by kernel_rfl) (fun _ _ _ h => h) (Or.inl ⟨by rfl, ?ytbn10⟩) (by assumption) ?ttbn10
            case ytbn10 => (intro wz hSw; clear hSw; go_simp; try with_reducible rfl)
            simp only [Act.put, List.setIfInBounds_toArray, List.set_cons_zero, List.set_cons_succ]
            refine wpAnyH_take (i := 11) (oi := { dst := some 87, op := Op.binOp BinOp.eql 3 (Operand.tmp 80) (Operand.tmp 86) 3, type := 4, pos := "code.go:83", after := #[{ on := 4, ground := Ground.data }, { on := 10, ground := Ground.data }], guard := none }) (v := ?vtbn11) rfl (by kernel_rfl) (by kernel_rfl) (by kernel_rfl) (fun _ _ _ h => h) (Or.inl ⟨by rfl, ?ytbn11⟩) (by assumption) ?ttbn11
            case ytbn11 => (intro wz hSw; clear hSw; go_simp; try with_reducible rfl)
            simp only [Act.put, List.setIfInBounds_toArray, List.set_cons_zero, List.set_cons_succ]
            refine wpAnyH_ready (rs := [12]) (by kernel_rfl) (by simp) ?_
            refine AllReadyH.cons (o := { dst := some 88, op := Op.call { callee := Callee.value (Operand.func 55), args := #[Operand.tmp 87, Operand.const (Value.int IntKind.i64 10)], argTypes := #[4, 26] }, type := 0, pos := "code.go:83", after := #[{ on := 11, ground := Ground.data }], guard := none }) rfl (fun K hK => ?_) AllReadyH.nil
            go_simp
            refine (require_no 10 _).mono ?_; rintro e wz ⟨rfl, rfl⟩
            refine ⟨rfl, ?_⟩
            rw [HRe.out]
            exact ⟨rfl, FIN.out⟩
          have ha2 : (a == (s.size : Int)) = true := by simpa using ha
          go_wp2_with fail
          refine wp_region_held_drew (S := (fun v => v.heap[b]? = some (rdObj s a G))) (by kernel_rfl) (HBj.out) (fun hHeld => ?_)
          refine wpAnyH_take (i := 0) (oi := { dst := some 76, op := Op.move (Operand.tmp 0), type := 55, pos := "code.go:83", after := #[], guard := none }) (v := ?vtby0) rfl (by kernel_rfl) (by kernel_rfl) (by kernel_rfl) (fun _ _ _ h => h) (Or.inl ⟨by rfl, ?ytby0⟩) (by assumption) ?ttby0
          case ytby0 => (intro wz hSw; clear hSw; go_simp; try with_reducible rfl)
          simp only [Act.put, List.setIfInBounds_toArray, List.set_cons_zero, List.set_cons_succ]
          refine wpAnyH_take (i := 1) (oi := { dst := some 77, op := Op.nilCheck (Operand.tmp 76), type := 0, pos := "code.go:83", after := #[{ on := 0, ground := Ground.data }], guard := none }) (v := ?vtby1) rfl (by kernel_rfl) (by kernel_rfl) (by kernel_rfl) (fun _ _ _ h => h) (Or.inl ⟨by rfl, ?ytby1⟩) (by assumption) ?ttby1
          case ytby1 => (intro wz hSw; clear hSw; go_simp; try with_reducible rfl)
          simp only [Act.put, List.setIfInBounds_toArray, List.set_cons_zero, List.set_cons_succ]
          refine wpAnyH_take (i := 2) (oi := { dst := some 78, op := Op.fieldAddr 59 (Operand.tmp 77) 0, type := 0, pos := "code.go:83", after := #[{ on := 1, ground := Ground.data }], guard := none }) (v := ?vtby2) rfl (by kernel_rfl) (by kernel_rfl) (by kernel_rfl) (fun _ _ _ h => h) (Or.inl ⟨by rfl, ?ytby2⟩) (by assumption) ?ttby2
          case ytby2 => (intro wz hSw; clear hSw; go_simp; try with_reducible rfl)
          simp only [Act.put, List.setIfInBounds_toArray, List.set_cons_zero, List.set_cons_succ]
          refine wpAnyH_take (i := 3) (oi := { dst := some 79, op := Op.fieldAddr 57 (Operand.tmp 78) 1, type := 0, pos := "code.go:83", after := #[{ on := 2, ground := Ground.data }], guard := none }) (v := ?vtby3) rfl (by kernel_rfl) (by kernel_rfl) (by kernel_rfl) (fun _ _ _ h => h) (Or.inl ⟨by rfl, ?ytby3⟩) (by assumption) ?ttby3
          case ytby3 => (intro wz hSw; clear hSw; go_simp; try with_reducible rfl)
          simp only [Act.put, List.setIfInBounds_toArray, List.set_cons_zero, List.set_cons_succ]
          refine wpAnyH_take (i := 4) (oi := { dst := some 80, op := Op.load 3 (Operand.tmp 79), type := 3, pos := "code.go:83", after := #[{ on := 3, ground := Ground.data }], guard := none }) (v := ?vtby4) rfl (by kernel_rfl) (by kernel_rfl) (by kernel_rfl) (fun _ _ _ h => h) (Or.inl ⟨by rfl, ?ytby4⟩) (by assumption) ?ttby4
          case ytby4 => (intro wz hSw; have q0 := box_cell hSw 0 (.string s) rfl; have q1 := box_cell hSw 1 (.int .i64 a) rfl; clear hSw; go_simp; try with_reducible rfl)
          simp only [Act.put, List.setIfInBounds_toArray, List.set_cons_zero, List.set_cons_succ]
          refine wpAnyH_take (i := 5) (oi := { dst := some 81, op := Op.move (Operand.tmp 0), type := 55, pos := "code.go:83", after := #[], guard := none }) (v := ?vtby5) rfl (by kernel_rfl) (by kernel_rfl) (by kernel_rfl) (fun _ _ _ h => h) (Or.inl ⟨by rfl, ?ytby5⟩) (by assumption) ?ttby5
          case ytby5 => (intro wz hSw; clear hSw; go_simp; try with_reducible rfl)
          simp only [Act.put, List.setIfInBounds_toArray, List.set_cons_zero, List.set_cons_succ]
          refine wpAnyH_take (i := 6) (oi := { dst := some 82, op := Op.nilCheck (Operand.tmp 81), type := 0, pos := "code.go:83", after := #[{ on := 5, ground := Ground.data }], guard := none }) (v := ?vtby6) rfl (by kernel_rfl) (by kernel_rfl) (by kernel_rfl) (fun _ _ _ h => h) (Or.inl ⟨by rfl, ?ytby6⟩) (by assumption) ?ttby6
          case ytby6 => (intro wz hSw; clear hSw; go_simp; try with_reducible rfl)
          simp only [Act.put, List.setIfInBounds_toArray, List.set_cons_zero, List.set_cons_succ]
          refine wpAnyH_take (i := 7) (oi := { dst := some 83, op := Op.fieldAddr 59 (Operand.tmp 82) 0, type := 0, pos := "code.go:83", after := #[{ on := 6, ground := Ground.data }], guard := none }) (v := ?vtby7) rfl (by kernel_rfl) (by kernel_rfl) (by kernel_rfl) (fun _ _ _ h => h) (Or.inl ⟨by rfl, ?ytby7⟩) (by assumption) ?ttby7
          case ytby7 => (intro wz hSw; clear hSw; go_simp; try with_reducible rfl)
          simp only [Act.put, List.setIfInBounds_toArray, List.set_cons_zero, List.set_cons_succ]
          refine wpAnyH_take (i := 8) (oi := { dst := some 84, op := Op.fieldAddr 57 (Operand.tmp 83) 0, type := 0, pos := "code.go:83", after := #[{ on := 7, ground := Ground.data }], guard := none }) (v := ?vtby8) rfl (by kernel_rfl) (by kernel_rfl) (by kernel_rfl) (fun _ _ _ h => h) (Or.inl ⟨by rfl, ?ytby8⟩) (by assumption) ?ttby8
          case ytby8 => (intro wz hSw; clear hSw; go_simp; try with_reducible rfl)
          simp only [Act.put, List.setIfInBounds_toArray, List.set_cons_zero, List.set_cons_succ]
          refine wpAnyH_take (i := 9) (oi := { dst := some 85, op := Op.load 9 (Operand.tmp 84), type := 9, pos := "code.go:83", after := #[{ on := 8, ground := Ground.data }], guard := none }) (v := ?vtby9) rfl (by kernel_rfl) (by kernel_rfl) (by kernel_rfl) (fun _ _ _ h => h) (Or.inl ⟨by rfl, ?ytby9⟩) (by assumption) ?ttby9
          case ytby9 => (intro wz hSw; have q0 := box_cell hSw 0 (.string s) rfl; have q1 := box_cell hSw 1 (.int .i64 a) rfl; clear hSw; go_simp; try with_reducible rfl)
          simp only [Act.put, List.setIfInBounds_toArray, List.set_cons_zero, List.set_cons_succ]
          refine wpAnyH_take (i := 10) (oi := { dst := some 86, op := Op.call { callee := Callee.builtin Go.Builtin.len, args := #[Operand.tmp 85], argTypes := #[9] }, type := 3, pos := "code.go:83", after := #[{ on := 9, ground := Ground.data }], guard := none }) (v := ?vtby10) rfl (by kernel_rfl) (by kernel_rfl) (by kernel_rfl) (fun _ _ _ h => h) (Or.inl ⟨by rfl, ?ytby10⟩) (by assumption) ?ttby10
          case ytby10 => (intro wz hSw; clear hSw; go_simp; try with_reducible rfl)
          simp only [Act.put, List.setIfInBounds_toArray, List.set_cons_zero, List.set_cons_succ]
          refine wpAnyH_take (i := 11) (oi := { dst := some 87, op := Op.binOp BinOp.eql 3 (Operand.tmp 80) (Operand.tmp 86) 3, type := 4, pos := "code.go:83", after := #[{ on := 4, ground := Ground.data }, { on := 10, ground := Ground.data }], guard := none }) (v := ?vtby11) rfl (by kernel_rfl) (by kernel_rfl) (by kernel_rfl) (fun _ _ _ h => h) (Or.inl ⟨by rfl, ?ytby11⟩) (by assumption) ?ttby11
          case ytby11 => (intro wz hSw; clear hSw; go_simp; try with_reducible rfl)
          simp only [Act.put, List.setIfInBounds_toArray, List.set_cons_zero, List.set_cons_succ]
          refine wpAnyH_ready (rs := [12]) (by kernel_rfl) (by simp) ?_
          refine AllReadyH.cons (o := { dst := some 88, op := Op.call { callee := Callee.value (Operand.func 55), args := #[Operand.tmp 87, Operand.const (Value.int IntKind.i64 10)], argTypes := #[4, 26] }, type := 0, pos := "code.go:83", after := #[{ on := 11, ground := Ground.data }], guard := none }) rfl (fun K hK => ?_) AllReadyH.nil
          go_simp
          refine (require_yes 10 _).mono ?_; rintro e wz ⟨rfl, rfl⟩
          refine hK.out _ _ (hHeld) (fun hHeld' => ?_)
          clear hK K hHeld
          have hHeld := hHeld'; clear hHeld'
          try simp only [Act.put, List.setIfInBounds_toArray, List.set_cons_zero, List.set_cons_succ]
          refine wpAnyH_done (by kernel_rfl) ?_ _
          have HBc := Lib.hid (show wr.drew.heap[b]? = some (rdObj s a G) from HBj.out)
          have HCc := Lib.hid (show Ch (fun k => k = b) w wr.drew from HC6.out.drewN 1)
          clear HBj HC6 hHeld
          generalize wr.drew = wc at *
          replace HR := Lib.hid (show R = if within K4 0 1 = false then .error 150 else if validB { G with gone := K4 == 1 } then .ok { G with gone := K4 == 1 } else .error 150 from by rw [HR.out]; unfold closeR; rw [if_neg (by simpa using ha)])
          clear ha ha2
          have HWi := Lib.hid (fun V => within_any K4 0 1 V)
          cases hw : within K4 0 1 with
          | false =>
            rw [hw] at HWi HR
            clear hw
            have HRe := Lib.hid (show R = .error 150 from by rw [HR.out, if_pos rfl])
            go_wp2_with fail
            refine (HWi.out _).mono ?_; rintro e wz ⟨rfl, rfl⟩
            go_wp2_with fail
            refine (require_no 150 _).mono ?_; rintro e wz ⟨rfl, rfl⟩
            go_wp2_with fail
            refine ⟨rfl, ?_⟩
            rw [HRe.out]
            exact ⟨rfl, HCc.out⟩
          | true =>
            rw [hw] at HWi HR
            clear hw
            replace HR := Lib.hid (show R = if validB { G with gone := K4 == 1 } then .ok { G with gone := K4 == 1 } else .error 150 from by rw [HR.out, if_neg (by simp)])
            have kk := box_cell HBc.out 6 _ rfl
            have zz := box_fz HBc.out 6
            have ll := lt_of_block HBc.out
            have HBd := Lib.hid (show (wc.setCell ⟨b, 6, none⟩ (.bool (K4 == 1))).heap[b]? = some (rdObj s a { G with gone := K4 == 1 }) from block_set HBc.out (o := 6) _)
            have HCd := Lib.hid (ch1 HCc.out 6 (.bool (K4 == 1)))
            go_wp2_with fail
            refine (HWi.out _).mono ?_; rintro e wz ⟨rfl, rfl⟩
            go_wp2_with fail
            refine (require_yes 150 _).mono ?_; rintro e wz ⟨rfl, rfl⟩
            go_upto_region 15 with (fail)
            clear kk zz ll HBc HCc HWi
            generalize wz.setCell ⟨b, 6, none⟩ (.bool (K4 == 1)) = wd at *
            have HVa := Lib.hid (valid_any { G with gone := K4 == 1 } wd (HT.out.ch HCd.out (fun e => HNe.out e.symm)) (by show G.tx.size ≤ maxLen; rw [HGt.out]; decide))
            unfold BoolPost at HVa
            have HGe := Lib.hid (show ∃ F3 : Fact, F3 = { G with gone := K4 == 1 } from ⟨_, rfl⟩)
            generalize ({ G with gone := K4 == 1 } : Fact) = F3 at *
            generalize validB F3 = B at *
            go_wp2_with (refine wpList_load_rd rfl _ rfl _ rfl s a F3 HBd.out ?_)
            refine HVa.out.mono ?_; rintro e we ⟨rfl, ge⟩
            have HBe := Lib.hid (box_below HBd.out ge)
            have HCe := Lib.hid (HCd.out.trans (Ch.ofBelow (S := fun k => k = b) ge) (fun _ _ e => e))
            clear ge
            cases B with
            | false =>
              have HRe := Lib.hid (show R = .error 150 from by rw [HR.out]; rfl)
              go_wp2_with fail
              refine (require_no 150 _).mono ?_; rintro e wz ⟨rfl, rfl⟩
              go_wp2_with fail
              refine ⟨rfl, ?_⟩
              rw [HRe.out]
              exact ⟨rfl, HCe.out⟩
            | true =>
              have HRe := Lib.hid (show R = .ok F3 from by rw [HR.out]; rfl)
              go_wp2_with fail
              refine (require_yes 150 _).mono ?_; rintro e wz ⟨rfl, rfl⟩
              go_wp2_with fail
              first | (refine bodyPost_ret (results_none rfl _ _ _) rfl ?_; rw [HRe.out]; exact ⟨rfl, HCe.out, _, HBe.out⟩) | (go_end0; rw [HRe.out]; exact ⟨rfl, HCe.out, _, HBe.out⟩)
end Go.Proofs.YtnmjcjkjdbkpnaaDoor
