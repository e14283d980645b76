/-
  numbers: the iterator over the numbers of a fact that its kind has, for a caller that may write to blocks of the set S.
-/
import Derived.Test.YtnmjcjkjdbkpnaaDoorTold
namespace Go.Proofs.YtnmjcjkjdbkpnaaDoor
open Go.RowKit Go.Shelf Fc
attribute [local go_sem] Oper.semAt_some
/-- The table of the usual spans. -/
def Tab (W : World) : Prop := 0 < W.heap.size ∧ ∀ x, x < 14 → W.cell? ⟨0, x * 2, none⟩ = some (.int .i64 (usualS x).1) ∧ W.cell? ⟨0, x * 2 + 1, none⟩ = some (.int .i64 (usualS x).2)
theorem Tab.below {w w' : World} (h : Tab w) (hb : Below w.heap.size w w') : Tab w' := ⟨Nat.lt_of_lt_of_le h.1 hb.size, fun x hx => ⟨cell_below hb (h.2 x hx).1, cell_below hb (h.2 x hx).2⟩⟩
theorem Tab.ks {S : Nat → Prop} {w w' : World} (h : Tab w) (hb : KS S w w') (hS : ¬ S 0) : Tab w' := ⟨Nat.lt_of_lt_of_le h.1 hb.size, fun x hx => ⟨hb.cell hS (h.2 x hx).1, hb.cell hS (h.2 x hx).2⟩⟩
theorem Tab.ch {S : Nat → Prop} {w w' : World} (h : Tab w) (hb : Ch S w w') (hS : ¬ S 0) : Tab w' := h.ks (KS.ofCh hb) hS
theorem ExcAt.ks {S : Nat → Prop} {k : Int} {B : Nat} {mv : Value} {w w' : World} (h : ExcAt k B mv w) (hb : KS S w w') (hS : ∀ i, B ≤ i → ¬ S i) : ExcAt k B mv w' := by
  rcases h with ⟨rfl, h⟩ | ⟨M, es, clock, rfl, hB, hM, h⟩
  · exact .inl ⟨rfl, h⟩
  · exact .inr ⟨M, es, clock, rfl, hB, hb.cells M _ (hS M hB) hM rfl, h⟩
abbrev spanObj (s : Int × Int) : Obj := .cells #[.int .i64 s.1, .int .i64 s.2] 75
def numEnc (fb : Nat) (k : Int) (x : Nat) : Array Value := #[.pointer (some ⟨fb, cellOf x, none⟩), spanV (spanS k x)]
/-- What a round may do. -/
def Rnd (S : Nat → Prop) (fb : Nat) (k : Int) (n l : Nat) (J Jx : List Nat → World → Prop) : Prop := ∀ pre (x : Nat) W1, J pre W1 → x ∈ fieldsL k → pre.length < 12 → YieldAt Fence.wide (n - 1) Tryd.prog l (numEnc fb k x) W1 fun e W' =>
      (e = .returned (.bool true) ∧ J (pre ++ [x]) W' ∧ KS S W1 W') ∨ (e = .returned (.bool false) ∧ Jx (pre ++ [x]) W')
def RndPost (S : Nat → Prop) (J Jx : List Nat → World → Prop) (pre : List Nat) (x : Nat) (W1 : World) (b : Bool) (W' : World) : Prop := (b = true ∧ J (pre ++ [x]) W' ∧ KS S W1 W') ∨ (b = false ∧ Jx (pre ++ [x]) W')
def NumPost (J Jx : List Nat → World → Prop) (L : List Nat) (e : Ending) (W' : World) : Prop := (∃ v, e = .returned v) ∧ ((∃ ys, ys = L ∧ J ys W') ∨ (∃ pre, pre <+: L ∧ Jx pre W'))
set_option maxRecDepth 100000 in
set_option maxHeartbeats 8000000 in
theorem numbers1_in (S : Nat → Prop) (n : Nat) (hn : 1 ≤ n) (l Bp fb : Nat) (k : Int) (W : World) (J Jx : List Nat → World → Prop) (hJ : AbidesFrom W.heap.size J) (hY : Rnd S fb k n l J Jx)
    (hBp : W.heap[Bp]? = some (.cells #[.pointer (some ⟨fb, 0, none⟩)] 72)) (hk : W.cell? ⟨fb, 0, none⟩ = some (.int .i64 k)) (hT : Tab W) (hS1 : ¬ S Bp) (hS2 : ¬ S 0) (hS3 : ∀ i, S i → i < W.heap.size) (h0 : J [] W) :
    CallsIn Fence.wide n Tryd.prog 57 #[.func (.yield l) #[] #[], .pointer (some ⟨Bp, 0, none⟩)] W (NumPost J Jx (fieldsL k)) := by
  refine callsIn_wide.2 ?_
  have HY := Lib.hid hY; have HJ := Lib.hid hJ; have H0 := Lib.hid h0; have HP := Lib.hid hBp; have HT := Lib.hid hT; have HS1 := Lib.hid hS1; have HS2 := Lib.hid hS2; have HS3 := Lib.hid hS3
  have HL := Lib.hid (fields_len k)
  have H14 := Lib.hid (fields_lt (k := k))
  have HE := Lib.hid (exceptions_any k W)
  have c0 := box_cell HP.out 0 (.pointer (some ⟨fb, 0, none⟩)) rfl
  clear hY hJ h0 hBp hT hS1 hS2 hS3
  go_enter Tryd.func57, Tryd.ntmps57
  go_wp2_with fail
  refine HE.out.mono ?_; rintro e w1 ⟨mv, rfl, he1, g1⟩
  have HX1 := Lib.hid he1
  have G1 := Lib.hid g1
  have HF := Lib.hid (fields_any k w1)
  replace c0 := cell_below g1 c0
  replace hk := cell_below g1 hk
  clear he1 g1 HE
  go_wp2_with fail
  refine HF.out.mono ?_; rintro e w2 ⟨ra, rc, rfl, hr, hrb, g2⟩
  have HR := Lib.hid hr
  have HRb := Lib.hid (show ∀ x, ra = some x → ¬ S x.block from fun x hx e => by have h1 := hrb x hx; have h2 := HS3.out _ e; have h3 := G1.out.size; omega)
  have HX2 := Lib.hid (HX1.out.ks (KS.ofBelow (S := S) g2) (fun i hi e => by have h2 := HS3.out _ e; omega))
  have G2 := Lib.hid (below_step G1.out g2)
  clear hr hrb g2 HX1 G1 HF c0 hk
  have HJ2 := Lib.hid (show J ((fieldsL k).take 0) w2 from HJ.out _ _ w2 none H0.out (grown_of_below G2.out) (fun r e => by cases e))
  have HT2 := Lib.hid (HT.out.below G2.out)
  have HP2 := Lib.hid (box_below HP.out G2.out)
  go_wp2_with fail
  refine (wpIn_wide (n := n)).1 ?_
  gi_loopw [19] (fun iv wr => ∃ j : Nat, j ≤ (fieldsL k).length ∧ iv = .int .i64 (j : Int) ∧ Hid (J ((fieldsL k).take j) wr) ∧ Hid (KS S w2 wr)) (fun iv _ => (fieldsL k).length - (intOf iv).toNat)
  case atStart => exact ⟨0, Nat.zero_le _, rfl, HJ2, Lib.hid (KS.refl _ _)⟩
  case round =>
    obtain ⟨j, hj, rfl, HJs, HK⟩ := hrel
    by_cases hlt : j < (fieldsL k).length
    · obtain ⟨b, off, rfl, hb, hc⟩ := (HR.out.ks HK.out HRb.out).at (show 0 < (fieldsL k).length by omega)
      have t0 : wr.cell? ⟨b, off + j * 1 + 0, none⟩ = some (.int .i64 ((fieldsL k)[j] : Int)) := hc j hlt 0 _ rfl
      simp only [Nat.mul_one, Nat.add_zero] at t0
      have HM := Lib.hid (List.getElem_mem hlt)
      have HTk := Lib.hid (show (fieldsL k).take (j + 1) = (fieldsL k).take j ++ [(fieldsL k)[j]] from List.take_succ_eq_append_getElem hlt)
      have j0 : (0 : Int) ≤ (j : Int) := by omega
      have j1 : (j : Int) < ((fieldsL k).length : Int) := by omega
      have hx14 := H14.out _ HM.out
      have j2 : (j : Int) < 11 := by have := HL.out; omega
      clear hc
      generalize (fieldsL k)[j] = x at *
      have HLk := Lib.hid (exc_look (HX2.out.ks HK.out (fun i hi e => by have h2 := HS3.out _ e; omega)) hx14)
      have HSp := Lib.hid (show spanS k x = (exceptS k x).getD (usualS x) from rfl)
      have HPl := Lib.hid (fun v => place_any fb x hx14 v)
      have hT0 := ((HT2.out.ks HK.out HS2.out).2 x hx14).1
      have hT1 := ((HT2.out.ks HK.out HS2.out).2 x hx14).2
      have hgl := (HT2.out.ks HK.out HS2.out).1
      have c0 := HK.out.cell (p := ⟨Bp, 0, none⟩) HS1.out (box_cell HP2.out 0 _ rfl)
      cases he : exceptS k x with
      | none =>
        rw [he] at HLk HSp
        clear he
        have hLk := HLk.out
        simp only at hLk
        clear HLk
        have x0 : (0 : Int) ≤ (x : Int) := by omega
        have x1 : (x : Int) < 14 := by omega
        generalize usualS x = s at *
        have HNew := Lib.hid (heap_alloc_new wr (spanObj s))
        have HNb := Lib.hid (below_new wr (spanObj s))
        have J4 := Lib.hid (HJ.out _ _ (wr.alloc (spanObj s)).drew none HJs.out (grown_of_below HNb.out.drew) (fun r e => by cases e))
        have K4 := Lib.hid (show KS S w2 (wr.alloc (spanObj s)).drew from HK.out.trans (KS.ofBelow HNb.out.drew))
        obtain ⟨fn, tmps, assign, body, hy, hR⟩ := HY.out ((fieldsL k).take j) x _ J4.out HM.out (by rw [List.length_take]; have := HL.out; omega)
        have HR5 := Lib.hid (hR.mono (R' := fun e W' => ∃ b : Bool, e = .returned (.bool b) ∧ RndPost S J Jx ((fieldsL k).take j) x (wr.alloc (spanObj s)).drew b W') (by
          rintro e W' (⟨rfl, h1, h2⟩ | ⟨rfl, h1⟩)
          · exact ⟨true, rfl, .inl ⟨rfl, h1, h2⟩⟩
          · exact ⟨false, rfl, .inr ⟨rfl, h1⟩⟩))
        clear hR
        unfold numEnc at hy
        rw [HSp.out] at hy
        simp only [Option.getD] at hy
        obtain ⟨s0, s1⟩ := s
        dsimp only [spanObj, spanV] at HNew HNb J4 K4 HR5 hy
        simp only at hT0 hT1
        gi_wp2_with fail
        generalize wr.alloc (.cells #[.int .i64 s0, .int .i64 s1] 75) = w5 at *
        have d0 := box_cell HNew.out 0 (.int .i64 s0) rfl
        have d1 := box_cell HNew.out 1 (.int .i64 s1) rfl
        replace c0 := cell_below HNb.out c0
        gi_cut [40] from 20 (fun v wc => ∃ bb : Bool, v = .bool (!bb) ∧ Hid (RndPost S J Jx ((fieldsL k).take j) x w5.drew bb wc))
        case first =>
         gi_region_with (first | (refine ⟨trivial, (callsIn_wide.2 (HPl.out _)).mono ?_⟩; rintro e w' ⟨rfl, rfl⟩) | (refine HR5.out.mono ?_; rintro e W3 ⟨bb, rfl, hJ5⟩))
         all_goals
          gi_wp2_with fail
          gi_meet
          case rel => exact ⟨bb, rfl, Lib.hid hJ5⟩
        case rest =>
          obtain ⟨bb, rfl, HRp⟩ := hcut
          clear hy d0 d1 c0 t0 hT0 hT1 hgl
          rcases HRp.out with ⟨rfl, hJ6, hk6⟩ | ⟨rfl, hJ6⟩
          · have HJ5 := Lib.hid (show J ((fieldsL k).take (j + 1)) wc from by rw [HTk.out]; exact hJ6)
            have HK5 := Lib.hid (K4.out.trans hk6)
            clear hJ6 hk6 HRp
            gi_wp2
            go_roundw
            case rel => exact ⟨j + 1, hlt, by go_num, HJ5, HK5⟩
            case measure => simp [intOf]; omega
          · have HJ5 := Lib.hid (show Jx ((fieldsL k).take (j + 1)) wc from by rw [HTk.out]; exact hJ6)
            clear hJ6 HRp
            gi_wp2
            refine bodyPost_ret (results_none rfl _ _ _) rfl ?_
            exact ⟨⟨_, rfl⟩, .inr ⟨_, List.take_prefix (j + 1) _, HJ5.out⟩⟩
      | some s =>
        rw [he] at HLk HSp
        clear he
        have hLk := HLk.out
        simp only at hLk
        clear HLk
        have HNew := Lib.hid (heap_alloc_new wr (spanObj s))
        have HNb := Lib.hid (below_new wr (spanObj s))
        have J4 := Lib.hid (HJ.out _ _ (wr.alloc (spanObj s)).drew none HJs.out (grown_of_below HNb.out.drew) (fun r e => by cases e))
        have K4 := Lib.hid (show KS S w2 (wr.alloc (spanObj s)).drew from HK.out.trans (KS.ofBelow HNb.out.drew))
        obtain ⟨fn, tmps, assign, body, hy, hR⟩ := HY.out ((fieldsL k).take j) x _ J4.out HM.out (by rw [List.length_take]; have := HL.out; omega)
        have HR5 := Lib.hid (hR.mono (R' := fun e W' => ∃ b : Bool, e = .returned (.bool b) ∧ RndPost S J Jx ((fieldsL k).take j) x (wr.alloc (spanObj s)).drew b W') (by
          rintro e W' (⟨rfl, h1, h2⟩ | ⟨rfl, h1⟩)
          · exact ⟨true, rfl, .inl ⟨rfl, h1, h2⟩⟩
          · exact ⟨false, rfl, .inr ⟨rfl, h1⟩⟩))
        clear hR
        unfold numEnc at hy
        rw [HSp.out] at hy
        simp only [Option.getD] at hy
        obtain ⟨s0, s1⟩ := s
        dsimp only [spanObj, spanV] at HNew HNb J4 K4 HR5 hy
        gi_wp2_with fail
        generalize wr.alloc (.cells #[.int .i64 s0, .int .i64 s1] 75) = w5 at *
        have d0 := box_cell HNew.out 0 (.int .i64 s0) rfl
        have d1 := box_cell HNew.out 1 (.int .i64 s1) rfl
        replace c0 := cell_below HNb.out c0
        gi_cut [40] from 20 (fun v wc => ∃ bb : Bool, v = .bool (!bb) ∧ Hid (RndPost S J Jx ((fieldsL k).take j) x w5.drew bb wc))
        case first =>
         gi_region_with (first | (refine ⟨trivial, (callsIn_wide.2 (HPl.out _)).mono ?_⟩; rintro e w' ⟨rfl, rfl⟩) | (refine HR5.out.mono ?_; rintro e W3 ⟨bb, rfl, hJ5⟩))
         all_goals
          gi_wp2_with fail
          gi_meet
          case rel => exact ⟨bb, rfl, Lib.hid hJ5⟩
        case rest =>
          obtain ⟨bb, rfl, HRp⟩ := hcut
          clear hy d0 d1 c0 t0 hT0 hT1 hgl
          rcases HRp.out with ⟨rfl, hJ6, hk6⟩ | ⟨rfl, hJ6⟩
          · have HJ5 := Lib.hid (show J ((fieldsL k).take (j + 1)) wc from by rw [HTk.out]; exact hJ6)
            have HK5 := Lib.hid (K4.out.trans hk6)
            clear hJ6 hk6 HRp
            gi_wp2
            go_roundw
            case rel => exact ⟨j + 1, hlt, by go_num, HJ5, HK5⟩
            case measure => simp [intOf]; omega
          · have HJ5 := Lib.hid (show Jx ((fieldsL k).take (j + 1)) wc from by rw [HTk.out]; exact hJ6)
            clear hJ6 HRp
            gi_wp2
            refine bodyPost_ret (results_none rfl _ _ _) rfl ?_
            exact ⟨⟨_, rfl⟩, .inr ⟨_, List.take_prefix (j + 1) _, HJ5.out⟩⟩
    · have k1 : ¬ (j : Int) < ((fieldsL k).length : Int) := by omega
      have HJ5 := Lib.hid (show J (fieldsL k) wr from by have := HJs.out; rwa [List.take_of_length_le (by omega)] at this)
      gi_wp2
      go_wp2_with fail
      go_end0
      exact ⟨⟨_, rfl⟩, .inl ⟨_, rfl, HJ5.out⟩⟩
theorem numbers_any (p : Addr) (w : World) : Calls Tryd.prog 48 #[.pointer (some p)] w fun e w' => e = .returned (.func (.func 57) #[] #[.pointer (some ⟨w.heap.size, 0, none⟩)]) ∧ w' = w.alloc (.cells #[.pointer (some p)] 72) := by
  have hmf : ∀ (fn : Fn) (first cap : Array Value) (w : World), (Instr.makeFunc fn first cap).run Tryd.prog w = .ok (.func fn first cap) w := fun _ _ _ _ => rfl
  go_enter Tryd.func48, Tryd.ntmps48
  go_wp2_with fail
  go_ret
  exact ⟨rfl, rfl⟩
/-- The numbers of a fact as a sequence. -/
theorem nums_told (S : Nat → Prop) (n : Nat) (hn : 1 ≤ n) (Bp fb : Nat) (k : Int) (w : World) (hBp : w.heap[Bp]? = some (.cells #[.pointer (some ⟨fb, 0, none⟩)] 72)) (hk : w.cell? ⟨fb, 0, none⟩ = some (.int .i64 k)) (hT : Tab w) (hS1 : ¬ S Bp) (hS2 : ¬ S 0) (hS3 : ∀ i, S i → i < w.heap.size) :
    SeqTold (fun x _ => x ∈ fieldsL k) (KS S) Fence.wide n Tryd.prog 57 #[.pointer (some ⟨Bp, 0, none⟩)] (numEnc fb k) (fun ys => ys = fieldsL k) (fun pre => pre <+: fieldsL k) 12 w :=
  fun l J Jx W hW hJ _ hY h0 => numbers1_in S n hn l Bp fb k W J Jx hJ hY (box_below hBp hW) (cell_below hW hk) (hT.below hW) hS1 hS2 (fun i h => Nat.lt_of_lt_of_le (hS3 i h) hW.size) h0
end Go.Proofs.YtnmjcjkjdbkpnaaDoor
