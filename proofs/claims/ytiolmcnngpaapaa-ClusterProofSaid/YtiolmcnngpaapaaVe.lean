/-
  Contract of Verify.
-/
import Derived.Test.YtiolmcnngpaapaaIt
import Derived.Test.YtiolmcnngpaapaaQr
namespace Go.Proofs.Ytiolmcnngpaapaa
open Go.RowKit Go.Shelf Cy
attribute [local go_sem] Oper.semAt_some

/-- Starts that are starts. -/
def StOk (s : List Int) : Prop := ∀ x ∈ s, within x 0 1000000000 = true
theorem verB_eq (n p : Int) (l : List Arc) (s : List Int) : verB n p l s = (valid n l && (isPer p && (decide ((s.length : Int) = n) && (s.all (within · 0 1000000000) && keeps p l s)))) := by unfold verB; simp only [Bool.and_assoc]
abbrev startsObj (a : Option Addr) (n c : Nat) : Obj := .cells #[.slice a n c] 25
def keepsOne (p : Int) (s : List Int) (a : Arc) : Bool := decide (s.getD a.f.toNat 0 + len p a ≤ s.getD a.t.toNat 0)
/-- Between two rounds of Verify. -/
structure VI (w : World) (p : Int) (s : List Int) (sa : Option Addr) (sc : Nat) (pre : List Arc) (W : World) : Prop where
  sb : W.heap[w.heap.size]? = some (startsObj sa s.length sc)
  rb : W.heap[w.heap.size + 1]? = some (.cells #[.bool false] 4)
  bel : Below w.heap.size w W
  yes : ∀ a ∈ pre, keepsOne p s a = true
def VX (w : World) (p : Int) (s : List Int) (pre : List Arc) (W : World) : Prop :=
  (∃ a ∈ pre, keepsOne p s a = false) ∧ W.heap[w.heap.size + 1]? = some (.cells #[.bool false] 4) ∧ Below w.heap.size w W
theorem VI.own {w : World} {p : Int} {s : List Int} {sa : Option Addr} {sc B : Nat} (hB : w.heap.size ≤ B) : OwnFrom B (VI w p s sa sc) := fun _ _ _ _ hs hg hr => by
  have hk := KS.of_grown (S := fun _ => False) hg (fun r e => (hr r e).2)
  exact ⟨hk.cells _ _ (fun h => h) hs.sb rfl, hk.cells _ _ (fun h => h) hs.rb rfl, hs.bel.grown hg hs.bel.size (fun k e => Nat.le_trans hB (hr k e).1), hs.yes⟩
theorem VX.own {w : World} {p : Int} {s : List Int} {B : Nat} (hB : w.heap.size ≤ B) (c : Code) : OwnFrom B (fun pre W => c = .ret ∧ VX w p s pre W) := fun _ _ _ _ hs hg hr => by
  obtain ⟨e0, h1, h2, h3⟩ := hs
  have hk := KS.of_grown (S := fun _ => False) hg (fun r e => (hr r e).2)
  exact ⟨e0, h1, hk.cells _ _ (fun h => h) h2 rfl, h3.grown hg h3.size (fun k e => Nat.le_trans hB (hr k e).1)⟩
theorem ver_end {w V : World} {D : Nat} {b B : Bool} {us : Array Value} (h8 : us[8]? = some (.pointer (some ⟨w.heap.size + 1, 0, none⟩))) (hb : V.heap[w.heap.size + 1]? = some (.cells #[.bool b] 4)) (hB : B = b) (hbel : Below w.heap.size w V) (hD : w.heap.size ≤ D) (hK : V.heap[D]? = some (.deferred (some []))) :
    LeavesInM Fence.wide 6 Try.prog Try.f32 us (fun e w' => e = .returned (.bool B) ∧ Below w.heap.size w w') [] FrameMode.returning (V.putObj D (.deferred none)) := by
  have hk := KS.putObj (fun _ => False) V D _ (.deferred none) hK rfl
  have b0 := box_cell (hk.cells _ _ (fun h => h) hb rfl) 0 (.bool b) rfl
  refine ⟨.bool b, by simp [results, Try.results32, go_sem, h8, b0], by rw [hB], hbel.trans (belowK_b (w := w) (Nat.le_refl _) V D _ _ hD hK rfl rfl)⟩
set_option maxRecDepth 100000 in
set_option maxHeartbeats 4000000 in
/-- The last case: the arguments are valid, and the starts are as many as nodes. -/
theorem Verify_yes (n : Nat) (p : Int) (L : List Arc) (a : Option Addr) (c : Nat) (s : List Int) (sa : Option Addr) (sc : Nat) (w : World) (hn : n ≤ 32) (hA : ArcA w a c L) (hS : IntsA w sa sc s) (hS4 : ∀ x, a = some x → x.block < w.heap.size) (hv : valid (n : Int) L = true) (hp : isPer p = true) (hlen : s.length = n) :
    Calls Try.prog 32 #[.int .i64 (n : Int), .slice a L.length c, .int .i64 p, .slice sa s.length sc] w fun e w' => e = .returned (.bool (s.all (within · 0 1000000000) && keeps p L s)) ∧ Below w.heap.size w w' := by
  have hP := Cy.within_iff.1 (show within p (-1000000) 1000000 = true from hp)
  have HG := Lib.hid (valid_good hv hp)
  have HO := Lib.hid (arcOk_of hv)
  have HL := Lib.hid (valid_iff.1 hv).2.1
  obtain ⟨W2, hW2⟩ : ∃ V, (w.alloc (startsObj sa s.length sc)).alloc (.cells #[.bool false] 4) = V := ⟨_, rfl⟩
  have hb2 : Below w.heap.size w W2 := by rw [← hW2]; exact below_step (below_new _ _) (below_new _ _)
  have HB2 := Lib.hid hb2
  have HSb := Lib.hid (show W2.heap[w.heap.size]? = some (startsObj sa s.length sc) from by rw [← hW2]; exact box_below (heap_alloc_new w _) (below_new _ _))
  have HRb := Lib.hid (show W2.heap[w.heap.size + 1]? = some (.cells #[.bool false] 4) from by
    rw [← hW2]; have := heap_alloc_new (w.alloc (startsObj sa s.length sc)) (.cells #[.bool false] 4); rwa [World.size_alloc] at this)
  have HV := Valid_any (n : Int) (by constructor <;> omega) L a c W2 (hA.below hb2)
  rw [hv] at HV
  replace HV := Lib.hid HV
  have HPer := isPeriod_any p
  rw [hp] at HPer
  replace HPer := Lib.hid HPer
  have HA := Lib.hid hA; have HS := Lib.hid hS; have HS4 := Lib.hid hS4; have HW2 := Lib.hid hW2; have HPb := Lib.hid hP; have HLen := Lib.hid hlen
  have hsl : s.length ≤ 32 := by omega
  have hns : ((n : Int) != (n : Int)) = false := by simp
  clear hA hS hS4 hv hp hP hb2 hW2
  dsimp only [startsObj] at HW2
  have s0 := box_cell HSb.out 0 (.slice sa s.length sc) rfl
  have hq : ((s.length : Int) != (n : Int)) = false := by rw [hlen]; simp
  clear hlen
  refine (callsIn_wide (n := 6)).1 ?_
  refine callsIn_of_wp_marks Try.func32 rfl trivial ?_ rfl
  simp only [Try.ntmps32, List.size_toArray, List.length_cons, List.length_nil, Nat.reduceAdd, Nat.reduceSub, Array.replicate_succ, Array.replicate_zero, List.push_toArray, List.append_toArray, List.nil_append, List.cons_append]
  gi_wp2_with fail
  rw [HW2.out]
  refine ⟨trivial, (callsIn_wide.2 HV.out).mono ?_⟩; rintro e w3 ⟨rfl, g3⟩
  have HA3 := Lib.hid ((HA.out.below HB2.out).below g3)
  have HS3 := Lib.hid ((HS.out.below HB2.out).below g3)
  have HSb3 := Lib.hid (box_below HSb.out g3)
  have HRb3 := Lib.hid (box_below HRb.out g3)
  have HB3 := Lib.hid (below_step HB2.out g3)
  clear g3 s0 HSb HRb HB2 HW2 HV HA
  have s0 := box_cell HSb3.out 0 (.slice sa s.length sc) rfl
  gi_wp2_with fail
  refine ⟨trivial, (callsIn_wide.2 (HPer.out _)).mono ?_⟩; rintro e w4 ⟨rfl, rfl⟩
  gi_wp2_with fail
  clear HPer
  gi_loopw [30] (fun i wr => ∃ k : Nat, k ≤ s.length ∧ i = .int .i64 (k : Int) ∧ wr = w3 ∧ Hid (∀ i (h : i < s.length), i < k → within s[i] 0 1000000000 = true)) (fun i _ => s.length - (intOf i).toNat)
  case atStart => exact ⟨0, Nat.zero_le _, rfl, rfl, Lib.hid (fun i _ hi => by omega)⟩
  case round =>
    obtain ⟨k, hk, rfl, rfl, HF⟩ := hrel
    by_cases hlt : k < s.length
    · obtain ⟨b, off, rfl, hb, hcc⟩ := HS3.out.at (by omega)
      have y0 := int_cell (hcc k hlt)
      rw [Nat.mul_one] at y0
      have HN := Lib.hid (within_any s[k] 0 1000000000)
      have HSt := Lib.hid (show within s[k] 0 1000000000 = true → ∀ i (h : i < s.length), i < k + 1 → within s[i] 0 1000000000 = true from fun h i hi hik => by
        rcases Nat.lt_or_eq_of_le (Nat.le_of_lt_succ hik) with h1 | h1
        · exact HF.out i hi h1
        · subst h1; exact h)
      have HX := Lib.hid (show within s[k] 0 1000000000 = false → s.all (within · 0 1000000000) = false from fun h => by
        rw [List.all_eq_false]; exact ⟨s[k], List.getElem_mem hlt, by rw [h]; simp⟩)
      have k0 : (0 : Int) ≤ (k : Int) := by omega
      have k1 : (k : Int) < (s.length : Int) := by omega
      clear hcc
      generalize within s[k] 0 1000000000 = V at *
      generalize s[k] = x at *
      gi_wp2_with fail
      refine ⟨trivial, (callsIn_wide.2 (HN.out _)).mono ?_⟩; rintro e w4 ⟨rfl, rfl⟩
      cases V with
      | true =>
        have HR := Lib.hid (HSt.out rfl)
        gi_wp2_with fail
        go_roundw
        case rel => exact ⟨k + 1, hlt, by go_num, by trivial, HR⟩
        case measure => simp [intOf]; omega
      | false =>
        have HR := Lib.hid (HX.out rfl)
        have r0 := box_cell HRb3.out 0 (.bool false) rfl
        have z0 := box_fz HRb3.out 0
        have hz := lt_of_block HRb3.out
        gi_wp2_with fail
        have b0 := box_cell (block_set HRb3.out (o := 0) (.bool false)) 0 (.bool false) rfl
        show LeavesInM _ _ _ _ _ _ _ _ _
        refine ⟨.bool false, by simp [results, Try.results32, go_sem, b0], by rw [HR.out]; rfl, HB3.out.setCell (by simp) _⟩
    · have k1 : ¬ (k : Int) < (s.length : Int) := by omega
      have HAl := Lib.hid (show s.all (within · 0 1000000000) = true from List.all_eq_true.2 fun x hx => by
        obtain ⟨i, hi, rfl⟩ := List.getElem_of_mem hx
        exact HF.out i hi (by omega))
      have HBd := Lib.hid (show ∀ j, 0 ≤ s.getD j 0 ∧ s.getD j 0 ≤ 1000000000 from fun j => by
        by_cases hj : j < s.length
        · have := Cy.within_iff.1 (HF.out j hj (by omega))
          rw [List.getD_eq_getElem?_getD, List.getElem?_eq_getElem hj]; exact this
        · rw [List.getD_eq_getElem?_getD, List.getElem?_eq_none (by omega)]; simp)
      have HLg := Lib.hid (lengths_any L a c p wr)
      clear hk HF
      gi_wp2_with fail
      refine ⟨trivial, (callsIn_wide.2 HLg.out).mono ?_⟩; rintro e w5 ⟨rfl, rfl⟩
      clear HLg
      obtain ⟨W5, hW5⟩ : ∃ V, (wr.alloc (sliceObj a L.length c)).alloc (intObj p) = V := ⟨_, rfl⟩
      have hb5 : Below wr.heap.size wr W5 := by rw [← hW5]; exact below_step (below_new _ _) (below_new _ _)
      have hz5 : w.heap.size ≤ W5.heap.size := (below_step HB3.out hb5).size
      have HT := Lib.hid (lens_told (fun _ => False) 5 (by omega) wr.heap.size (wr.heap.size + 1) L a c p W5 (by rw [← hW5]; exact box_below (heap_alloc_new wr _) (below_new _ _))
        (by rw [← hW5]; have := heap_alloc_new (wr.alloc (sliceObj a L.length c)) (intObj p); rwa [World.size_alloc] at this) (HA3.out.below hb5) HL.out (fun h => h) (fun h => h) (fun _ _ h => h) HO.out HPb.out)
      have HI0 := Lib.hid (show VI w p s sa sc [] W5 from ⟨box_below HSb3.out hb5, box_below HRb3.out hb5, below_step HB3.out hb5, fun x hx => by cases hx⟩)
      rw [hW5]
      clear hW5 hb5 s0
      gi_wp2_with fail
      refine wpIn_rangeFunc_told rfl (by omega) (gf := 89) (lb := #[.pointer (some ⟨wr.heap.size, 0, none⟩), .pointer (some ⟨wr.heap.size + 1, 0, none⟩)]) rfl trivial (enters_of Try.func89 (by kernel_rfl) rfl)
        HT.out KS.trans (fun W l o o' _ h hc _ => KS.putObj _ W l o o' h hc) (Below.refl _ _) (fun _ => rfl) (VI w p s sa sc) (fun cd pre W => cd = .ret ∧ VX w p s pre W) (VI.own hz5) (fun cd => VX.own hz5 cd) (fun _ _ _ _ h _ _ => h) HI0.out
        (fun y a' W => ∃ b, a' = { tmps := #[.int .i64 (n : Int), .slice a L.length c, .int .i64 p, .slice sa s.length sc, undef, undef, undef, .pointer (some ⟨w.heap.size, 0, none⟩), .pointer (some ⟨w.heap.size + 1, 0, none⟩), undef, u10, .pointer (some ⟨b, 0, none⟩), .int .i64 (len p y), .int .i64 (n : Int), .slice a L.length c, .bool true, .bool false, .bool false, .int .i64 p, .bool true, .bool false, .bool false, .bool false, .slice sa s.length sc, .int .i64 (s.length : Int), .int .i64 (n : Int), .bool false, .bool false, .slice sa s.length sc, .int .i64 (s.length : Int), .int .i64 (k : Int), .bool false, u32, u33, u34, u35, u36, u37, .slice a L.length c, .int .i64 p, .func (.func 89) #[] #[.pointer (some ⟨wr.heap.size, 0, none⟩), .pointer (some ⟨wr.heap.size + 1, 0, none⟩)], endsV y, .int .i64 (len p y), undef, undef, undef, undef, undef, undef, undef, undef, undef, undef, undef, undef, undef], defers := [] } ∧ W.heap[b]? = some (endsObj y)) ?hAx ?assign ?body ?done ?stop
      case hAx =>
        rintro y a' V l o o' ⟨b, rfl, hb⟩ hl ho hc
        refine ⟨b, rfl, (World.putObj_heap_other (fun e => ?_)).trans hb⟩
        subst e; rw [hb] at ho; cases ho; cases hc
      case assign =>
        intro l pre y U K hI hE hK
        obtain ⟨yf, yt, yw, yk⟩ := y
        have hb := below_new U (endsObj ⟨yf, yt, yw, yk⟩)
        have HKf := Lib.hid (hK _ (U.alloc (endsObj ⟨yf, yt, yw, yk⟩)) (KeepsFrom.of_grownBy (grown_of_below hb) (fun j e => by cases e)) (KS.ofBelow hb) (VI.own (Nat.le_refl _) _ _ _ none hI (grown_of_below hb) (fun r e => by cases e)) hE ⟨U.heap.size, rfl, heap_alloc_new _ _⟩)
        clear hK
        gi_wp2
        exact HKf.out
      case body =>
        rintro l pre y a' W hI hE ⟨b, rfl, hsb⟩ hlen
        have hy := HG.out y hE
        have bf := HBd.out y.f.toNat
        have bt := HBd.out y.t.toNat
        have s0 := box_cell hI.sb 0 (.slice sa s.length sc) rfl
        have HI := Lib.hid hI
        obtain ⟨yf, yt, yw, yk⟩ := y
        simp only at hy bf bt
        obtain ⟨uf, rfl⟩ := Int.eq_ofNat_of_zero_le hy.1
        obtain ⟨ut, rfl⟩ := Int.eq_ofNat_of_zero_le hy.2.2.1
        simp only [Int.toNat_natCast] at bf bt
        have HK := Lib.hid (show keepsOne p s ⟨(uf : Int), (ut : Int), yw, yk⟩ = decide (s.getD uf 0 + len p ⟨(uf : Int), (ut : Int), yw, yk⟩ ≤ s.getD ut 0) from rfl)
        have hns' := HLen.out
        have hf1 : uf < s.length := by omega
        have ht1 : ut < s.length := by omega
        obtain ⟨gb, off, rfl, hgb, hcc⟩ := (HS.out.below hI.bel).at (show 0 < s.length by omega)
        have r0 := int_cell (hcc uf hf1)
        have r1 := int_cell (hcc ut ht1)
        rw [Nat.mul_one] at r0 r1
        rw [show s[uf] = s.getD uf 0 by rw [List.getD_eq_getElem?_getD, List.getElem?_eq_getElem hf1]; rfl] at r0
        rw [show s[ut] = s.getD ut 0 by rw [List.getD_eq_getElem?_getD, List.getElem?_eq_getElem ht1]; rfl] at r1
        have k0 := box_cell hsb 0 (.int .i64 (uf : Int)) rfl
        have k1 := box_cell hsb 1 (.int .i64 (ut : Int)) rfl
        have q1 : (uf : Int) < (s.length : Int) := by omega
        have q2 : (ut : Int) < (s.length : Int) := by omega
        have q3 : (0 : Int) ≤ (uf : Int) := by omega
        have q4 : (0 : Int) ≤ (ut : Int) := by omega
        have q5 := hy.2.2.2.2
        clear hcc hI hy hns' hsb
        generalize s.getD uf 0 = U at *
        generalize s.getD ut 0 = V at *
        generalize hT : len p ⟨(uf : Int), (ut : Int), yw, yk⟩ = T at *
        clear hT hf1 ht1
        have e1 : IntKind.i64.wrap (U + T) = U + T := IntWalk.i64_in _ (by omega)
        have r9 := box_cell HI.out.rb 0 (.bool false) rfl
        have z9 := box_fz HI.out.rb 0
        have hz9 := lt_of_block HI.out.rb
        by_cases hlt : V < U + T
        · have HKf := Lib.hid (show keepsOne p s ⟨(uf : Int), (ut : Int), yw, yk⟩ = false by rw [HK.out]; simp; omega)
          gi_wp2_with fail
          refine wpIn_region_quiet_round l rfl (by kernel_rfl) (by kernel_rfl) (by kernel_rfl) ?_
          repeat (gi_big_quiet_step (fail))
          refine wpQuietIn_nil ?_
          intro _ hw'
          obtain ⟨nq, hw''⟩ := hw'
          subst hw''
          gi_wp2_with fail
          have hks := (KeepsOthers.setCell (W.drewN nq) ⟨w.heap.size + 1, 0, none⟩ (.bool false)).from W5.heap.size
          have hrb := block_set (show (W.drewN nq).heap[w.heap.size + 1]? = _ from HI.out.rb) (o := 0) (.bool false)
          have hbe := (below_drewN HI.out.bel nq).setCell (Nat.le_succ w.heap.size) (.bool false) (p := ⟨w.heap.size + 1, 0, none⟩)
          exact ⟨⟨hks.size, hks.same⟩, rfl, ⟨_, by simp, HKf.out⟩, hrb, hbe⟩
        · have HKt := Lib.hid (show keepsOne p s ⟨(uf : Int), (ut : Int), yw, yk⟩ = true by rw [HK.out]; simp; omega)
          gi_wp2_with fail
          refine wpIn_region_quiet_round l rfl (by kernel_rfl) (by kernel_rfl) (by kernel_rfl) ?_
          repeat (gi_big_quiet_step (fail))
          refine wpQuietIn_nil ?_
          intro _ hw'
          obtain ⟨nq, hw''⟩ := hw'
          subst hw''
          gi_wp2_with fail
          refine ⟨⟨Nat.le_refl _, fun _ _ _ h _ => h⟩, ⟨Nat.le_refl _, fun _ _ _ h _ => h⟩, HI.out.sb, HI.out.rb, below_drewN HI.out.bel nq, fun z hz => ?_⟩
          rcases List.mem_append.1 hz with hz | hz
          · exact HI.out.yes z hz
          · rw [List.mem_singleton.1 hz]; exact HKt.out
      case done =>
        rintro D ys W hD rfl hI hK
        have r9 := box_cell hI.rb 0 (.bool false) rfl
        have z9 := box_fz hI.rb 0
        have hz9 := lt_of_block hI.rb
        have HKp := Lib.hid (show (s.all (within · 0 1000000000) && keeps p ys s) = true from by
          rw [HAl.out, Bool.true_and]; exact List.all_eq_true.2 hI.yes)
        have HI := Lib.hid hI
        have HK := Lib.hid hK
        clear hI hK
        gi_wp2_with fail
        refine ⟨by simp, .inl ⟨_, _, rfl, run_takeDeferred ((KeepsOthers.setCell W ⟨w.heap.size + 1, 0, none⟩ (.bool true)).same D _ HK.out rfl), ?_⟩⟩
        exact ver_end rfl (block_set HI.out.rb (o := 0) (.bool true)) HKp.out (HI.out.bel.setCell (Nat.le_succ _) _) (Nat.le_trans hz5 hD) ((KeepsOthers.setCell W ⟨w.heap.size + 1, 0, none⟩ (.bool true)).same D _ HK.out rfl)
      case stop =>
        rintro D cd pre W hD hpre ⟨rfl, ⟨z, hz, hzf⟩, hrb, hbel⟩ hK
        have HKp := Lib.hid (show (s.all (within · 0 1000000000) && keeps p L s) = false from by
          rw [HAl.out, Bool.true_and]; exact List.all_eq_false.2 ⟨z, hpre.subset hz, by show ¬ keepsOne p s z = true; rw [hzf]; simp⟩)
        gi_wp2_with fail
        refine ⟨by simp, .inl ⟨_, _, rfl, run_takeDeferred hK, ?_⟩⟩
        exact ver_end rfl hrb HKp.out hbel (Nat.le_trans hz5 hD) hK
set_option maxRecDepth 100000 in
set_option maxHeartbeats 1000000 in
theorem Verify_any (n p : Int) (hn : Fits n) (L : List Arc) (a : Option Addr) (c : Nat) (s : List Int) (sa : Option Addr) (sc : Nat) (w : World) (hA : ArcA w a c L) (hS : IntsA w sa sc s) (hS4 : ∀ x, a = some x → x.block < w.heap.size) :
    Calls Try.prog 32 #[.int .i64 n, .slice a L.length c, .int .i64 p, .slice sa s.length sc] w fun e w' => e = .returned (.bool (verB n p L s)) ∧ Below w.heap.size w w' := by
  by_cases hv : valid n L = true
  · by_cases hpp : isPer p = true
    · by_cases hl : (s.length : Int) = n
      · obtain ⟨⟨h1, h2⟩, h3, -⟩ := valid_iff.1 hv
        subst hl
        rw [verB_eq, hv, hpp]
        simpa using Verify_yes s.length p L a c s sa sc w (by omega) hA hS hS4 hv hpp rfl
      · have HE := Lib.hid (show verB n p L s = false by rw [verB_eq, hv, hpp]; simp [hl])
        have HV := Valid_any n hn L a c ((w.alloc (startsObj sa s.length sc)).alloc (.cells #[.bool false] 4)) (hA.below (below_step (below_new _ _) (below_new _ _)))
        rw [hv] at HV
        replace HV := Lib.hid HV
        have HP := isPeriod_any p
        rw [hpp] at HP
        replace HP := Lib.hid HP
        have HN := Lib.hid (heap_alloc_new (w.alloc (startsObj sa s.length sc)) (.cells #[.bool false] 4))
        have HS := Lib.hid (box_below (heap_alloc_new w (startsObj sa s.length sc)) (below_new (w.alloc (startsObj sa s.length sc)) (.cells #[.bool false] 4)))
        have HB := Lib.hid (below_step (below_new w (startsObj sa s.length sc)) (below_new _ (.cells #[.bool false] 4)))
        rw [World.size_alloc] at HN
        have hq : ((s.length : Int) != n) = true := by simp [hl]
        have hsl := hS.len
        unfold maxLen at hsl
        dsimp only [startsObj] at HV HN HS HB
        clear hv hpp hA hS hS4
        go_enter Try.func32, Try.ntmps32
        go_wp2_with fail
        refine HV.out.mono ?_; rintro _ w1 ⟨rfl, g1⟩
        have S1 := Lib.hid (box_below HS.out g1)
        have N1 := Lib.hid (box_below HN.out g1)
        have B1 := Lib.hid (below_step HB.out g1)
        clear g1
        have c0 := box_cell S1.out 0 (.slice sa s.length sc) rfl
        have r0 := box_cell N1.out 0 (.bool false) rfl
        have z0 := box_fz N1.out 0
        have hz := lt_of_block N1.out
        go_wp2_with fail
        refine (HP.out _).mono ?_; rintro _ w2 ⟨rfl, rfl⟩
        go_wp2_with fail
        have b0 := box_cell (block_set N1.out (o := 0) (.bool false)) 0 (.bool false) rfl
        (try simp only [Exit.inBlock, Exit.then])
        refine bodyPost_ret (v := .bool false) (by simp [results, Try.results32, go_sem, b0]) rfl ⟨by rw [HE.out], B1.out.setCell (Nat.le_succ _) _⟩
    · have HE := Lib.hid (show verB n p L s = false by rw [verB_eq, hv, show isPer p = false by simpa using hpp]; simp)
      have HV := Valid_any n hn L a c ((w.alloc (startsObj sa s.length sc)).alloc (.cells #[.bool false] 4)) (hA.below (below_step (below_new _ _) (below_new _ _)))
      rw [hv] at HV
      replace HV := Lib.hid HV
      have HP := isPeriod_any p
      rw [show isPer p = false by simpa using hpp] at HP
      replace HP := Lib.hid HP
      have HN := Lib.hid (heap_alloc_new (w.alloc (startsObj sa s.length sc)) (.cells #[.bool false] 4))
      have HB := Lib.hid (below_step (below_new w (startsObj sa s.length sc)) (below_new _ (.cells #[.bool false] 4)))
      rw [World.size_alloc] at HN
      dsimp only [startsObj] at HV HN HB
      clear hv hpp hA hS hS4
      go_enter Try.func32, Try.ntmps32
      go_wp2_with fail
      refine HV.out.mono ?_; rintro _ w1 ⟨rfl, g1⟩
      have N1 := Lib.hid (box_below HN.out g1)
      have B1 := Lib.hid (below_step HB.out g1)
      clear g1
      have r0 := box_cell N1.out 0 (.bool false) rfl
      have z0 := box_fz N1.out 0
      have hz := lt_of_block N1.out
      go_wp2_with fail
      refine (HP.out _).mono ?_; rintro _ w2 ⟨rfl, rfl⟩
      go_wp2_with fail
      have b0 := box_cell (block_set N1.out (o := 0) (.bool false)) 0 (.bool false) rfl
      (try simp only [Exit.inBlock, Exit.then])
      refine bodyPost_ret (v := .bool false) (by simp [results, Try.results32, go_sem, b0]) rfl ⟨by rw [HE.out], B1.out.setCell (Nat.le_succ _) _⟩
  · have HE := Lib.hid (show verB n p L s = false by rw [verB_eq, show valid n L = false by simpa using hv]; simp)
    have HV := Valid_any n hn L a c ((w.alloc (startsObj sa s.length sc)).alloc (.cells #[.bool false] 4)) (hA.below (below_step (below_new _ _) (below_new _ _)))
    rw [show valid n L = false by simpa using hv] at HV
    replace HV := Lib.hid HV
    have HN := Lib.hid (heap_alloc_new (w.alloc (startsObj sa s.length sc)) (.cells #[.bool false] 4))
    have HB := Lib.hid (below_step (below_new w (startsObj sa s.length sc)) (below_new _ (.cells #[.bool false] 4)))
    rw [World.size_alloc] at HN
    dsimp only [startsObj] at HV HN HB
    clear hv hA hS hS4
    go_enter Try.func32, Try.ntmps32
    go_wp2_with fail
    refine HV.out.mono ?_; rintro _ w1 ⟨rfl, g1⟩
    have N1 := Lib.hid (box_below HN.out g1)
    have B1 := Lib.hid (below_step HB.out g1)
    clear g1
    have r0 := box_cell N1.out 0 (.bool false) rfl
    have z0 := box_fz N1.out 0
    have hz := lt_of_block N1.out
    go_wp2_with fail
    have b0 := box_cell (block_set N1.out (o := 0) (.bool false)) 0 (.bool false) rfl
    (try simp only [Exit.inBlock, Exit.then])
    refine bodyPost_ret (v := .bool false) (by simp [results, Try.results32, go_sem, b0]) rfl ⟨by rw [HE.out], B1.out.setCell (Nat.le_succ _) _⟩
end Go.Proofs.Ytiolmcnngpaapaa

