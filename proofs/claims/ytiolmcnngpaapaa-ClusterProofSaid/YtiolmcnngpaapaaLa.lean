/-
  Contract of longestArcs.
-/
import Derived.Test.YtiolmcnngpaapaaMp
namespace Go.Proofs.Ytiolmcnngpaapaa
open Go.RowKit Go.Shelf Cy
attribute [local go_sem] Oper.semAt_some

abbrev OwnMap (w : World) (b n : Nat) (D : DataW Unit) : Prop := w.ownsMap Try.prog 99 (plainElem Try.prog 3) b n D
/-- Between two rounds of longestArcs. -/
structure LI (w : World) (b : Nat) (p : Int) (pre : List Arc) (W : World) : Prop where
  map : ∃ D, OwnMap W b pre.length D ∧ MapIs D p pre
  box : W.heap[w.heap.size + 1]? = some (.cells #[.map (some b)] 116)
  bel : Below w.heap.size w W
  low : w.heap.size ≤ b
theorem LI.own {w : World} {b : Nat} {p : Int} {B : Nat} (hB : w.heap.size ≤ B) (hb : b < B) : OwnFrom B (LI w b p) := fun _ _ _ _ hs hg hr => by
  obtain ⟨⟨D, h1, h2⟩, h3, h4, h5⟩ := hs
  have hk := KS.of_grown (S := fun _ => False) hg (fun r e => (hr r e).2)
  exact ⟨⟨D, h1.kept hg (fun e => by have := (hr b e.symm).1; omega), h2⟩, hk.cells _ _ (fun h => h) h3 rfl, h4.grown hg h4.size (fun k e => Nat.le_trans hB (hr k e).1), h5⟩
/-- What longestArcs leaves. -/
def LaPost (p : Int) (L : List Arc) (w : World) (e : Ending) (w' : World) : Prop := ∃ b n D, e = .returned (.map (some b)) ∧ OwnMap w' b n D ∧ n ≤ 1000 ∧ MapIs D p L ∧ w.heap.size ≤ b ∧ Below w.heap.size w w'
theorem zeroInt (w : World) : (zeroValue 3).run Try.prog w = .ok (.int .i64 0) w := by kernel_rfl
set_option maxRecDepth 100000 in
set_option maxHeartbeats 4000000 in
theorem longestArcs_any (n : Nat) (hn : n ≤ 32) (p : Int) (L : List Arc) (a : Option Addr) (c : Nat) (w : World) (hG : Grd n p L) (hA : ArcA w a c L) (hL : L.length ≤ 200) (hO : ∀ x ∈ L, ArcOk x) (hp : -1000000 ≤ p ∧ p ≤ 1000000) :
    Calls Try.prog 84 #[.slice a L.length c, .int .i64 p] w (LaPost p L w) := by
  have hmm := @run_makeMap Try.prog
  obtain ⟨W2, hW2⟩ : ∃ V, (w.alloc (.map #[] 0)).alloc (.cells #[.map (some w.heap.size)] 116) = V := ⟨_, rfl⟩
  have hb2 : Below w.heap.size w W2 := by rw [← hW2]; exact below_step (below_new _ _) (below_new _ _)
  have HI2 := Lib.hid (show LI w w.heap.size p [] W2 from by
    refine ⟨⟨.map [], ?_, MapIs.empty p⟩, ?_, hb2, Nat.le_refl _⟩
    · rw [← hW2]; exact (World.ownsMap_made w Try.prog 99 (plainElem Try.prog 3)).alloc _
    · rw [← hW2]; have := heap_alloc_new (w.alloc (.map #[] 0)) (.cells #[.map (some w.heap.size)] 116); rwa [World.size_alloc] at this)
  have HB2 := Lib.hid hb2
  have hz2 : w.heap.size + 2 ≤ W2.heap.size := by rw [← hW2]; simp
  have HA := Lib.hid (hA.below hb2); have HL := Lib.hid hL; have HO := Lib.hid hO; have HP := Lib.hid hp; have HG := Lib.hid hG; have HW2 := Lib.hid hW2
  clear hA hL hO hp hG hb2 hW2
  refine (callsIn_wide (n := 6)).1 ?_
  refine callsIn_of_wp_marks Try.func84 rfl trivial ?_ rfl
  simp only [Try.ntmps84, List.size_toArray, List.length_cons, List.length_nil, Nat.reduceAdd, Nat.reduceSub, Array.replicate_succ, Array.replicate_zero, List.push_toArray, List.append_toArray, List.nil_append, List.cons_append]
  gi_wp2_with fail
  rw [HW2.out]
  refine ⟨trivial, (callsIn_wide.2 (lengths_any L a c p W2)).mono ?_⟩; rintro e w5 ⟨rfl, rfl⟩
  obtain ⟨W5, hW5⟩ : ∃ V, (W2.alloc (sliceObj a L.length c)).alloc (intObj p) = V := ⟨_, rfl⟩
  have hb5 : Below W2.heap.size W2 W5 := by rw [← hW5]; exact below_step (below_new _ _) (below_new _ _)
  have hz5 : w.heap.size + 2 ≤ W5.heap.size := by have := hb5.size; omega
  have HT := Lib.hid (lens_told (fun _ => False) 5 (by omega) W2.heap.size (W2.heap.size + 1) L a c p W5 (by rw [← hW5]; exact box_below (heap_alloc_new W2 _) (below_new _ _))
    (by rw [← hW5]; have := heap_alloc_new (W2.alloc (sliceObj a L.length c)) (intObj p); rwa [World.size_alloc] at this) (HA.out.below hb5) HL.out (fun h => h) (fun h => h) (fun _ _ h => h) HO.out HP.out)
  have HI0 := Lib.hid (show LI w w.heap.size p [] W5 from by
    obtain ⟨⟨D, h1, h2⟩, h3, h4, h5⟩ := HI2.out
    exact ⟨⟨D, h1.kept (grown_of_below hb5) (by simp), h2⟩, box_below h3 hb5, below_step h4 hb5, h5⟩)
  rw [hW5]
  clear hW5 hb5 hmm HW2 HI2 HB2
  gi_wp2_with fail
  refine wpIn_rangeFunc_told rfl (by omega) (gf := 89) (lb := #[.pointer (some ⟨W2.heap.size, 0, none⟩), .pointer (some ⟨W2.heap.size + 1, 0, none⟩)]) rfl trivial (enters_of Try.func89 (by kernel_rfl) rfl)
    HT.out KS.trans (fun W l o o' _ h hc _ => KS.putObj _ W l o o' h hc) (Below.refl _ _) (fun _ => rfl) (LI w w.heap.size p) (fun _ _ _ => False) (LI.own (by omega) (by omega)) (fun _ _ _ _ _ h => h.elim) (fun _ _ _ _ h _ _ => h) HI0.out
    (fun y a' W => ∃ b, a' = { tmps := #[.slice a L.length c, .int .i64 p, undef, undef, .map none, .pointer (some ⟨w.heap.size + 1, 0, none⟩), .pointer (some ⟨b, 0, none⟩), .int .i64 (len p y), undef, undef, .map (some w.heap.size), .slice a L.length c, .int .i64 p, .func (.func 89) #[] #[.pointer (some ⟨W2.heap.size, 0, none⟩), .pointer (some ⟨W2.heap.size + 1, 0, none⟩)], endsV y, .int .i64 (len p y), undef, undef, undef, undef, undef, undef, undef, undef, undef, undef, undef, undef, undef, undef, undef, undef, undef], defers := [] } ∧ W.heap[b]? = some (endsObj y)) ?hAx ?assign ?body ?done ?stop
  case hAx =>
    rintro y a' V l o o' ⟨b, rfl, hb⟩ hl ho hc
    refine ⟨b, rfl, (World.putObj_heap_other (fun e => ?_)).trans hb⟩
    subst e; rw [hb] at ho; cases ho; cases hc
  case assign =>
    intro l pre y U K hI hE hK
    obtain ⟨yf, yt, yw, yk⟩ := y
    have hb := below_new U (endsObj ⟨yf, yt, yw, yk⟩)
    have hU : w.heap.size < U.heap.size := by obtain ⟨⟨D, h1, -⟩, -⟩ := hI; exact h1.lt
    have HKf := Lib.hid (hK _ (U.alloc (endsObj ⟨yf, yt, yw, yk⟩)) (KeepsFrom.of_grownBy (grown_of_below hb) (fun j e => by cases e)) (KS.ofBelow hb) (LI.own (Nat.le_of_lt hU) hU _ _ _ none hI (grown_of_below hb) (fun r e => by cases e)) hE ⟨U.heap.size, rfl, heap_alloc_new _ _⟩)
    clear hK
    gi_wp2
    exact HKf.out
  case body =>
    rintro l pre y a' W hI hE ⟨b, rfl, hsb⟩ hlen
    have hy := HG.out y hE
    have HI := Lib.hid hI
    obtain ⟨D, hown, hmap⟩ := hI.map
    have HOwn := Lib.hid hown
    have HObj := Lib.hid (show ∃ o : Obj, W.heap[w.heap.size]? = some o ∧ o.isCells = false from by obtain ⟨es, clock, hb, -⟩ := hown; exact ⟨_, hb, rfl⟩)
    have HLm := Lib.hid (show pre.length < maxLen by unfold maxLen; omega)
    have c5 := box_cell hI.box 0 (.map (some w.heap.size)) rfl
    obtain ⟨yf, yt, yw, yk⟩ := y
    simp only at hy
    obtain ⟨uf, rfl⟩ := Int.eq_ofNat_of_zero_le hy.1
    obtain ⟨ut, rfl⟩ := Int.eq_ofNat_of_zero_le hy.2.2.1
    have hff : Fits (uf : Int) := by unfold Fits; omega
    have hft : Fits (ut : Int) := by unfold Fits; omega
    have HKey := Lib.hid (keyOf_ends hff hft)
    have k0 := box_cell hsb 0 (.int .i64 (uf : Int)) rfl
    have k1 := box_cell hsb 1 (.int .i64 (ut : Int)) rfl
    have hHas := hmap.has (uf : Int) (ut : Int) hff hft
    have HAt := Lib.hid (fun c h => hmap.at_ (uf : Int) (ut : Int) c hff hft h (.lit (.int .i64 0)))
    have HPt := Lib.hid (fun h => MapIs.put (a := ⟨(uf : Int), (ut : Int), yw, yk⟩) hmap hff hft h)
    have HKp := Lib.hid (fun c h1 h2 => MapIs.keep (a := ⟨(uf : Int), (ut : Int), yw, yk⟩) hmap (c := c) h1 h2)
    have hb3 := hy.2.2.2.2
    generalize hT : len p ⟨(uf : Int), (ut : Int), yw, yk⟩ = T at *
    have HTv := Lib.hid (plainElem_int (H := Unit) (P := Try.prog) (e := 3) (q := .i64) Try.underlying3 (a := T) (fits_wf (by unfold Fits; omega)))
    clear hT hI hown hmap hsb hy hff hft
    generalize hgr : great p pre (uf : Int) (ut : Int) = gr at *
    cases gr with
    | none =>
      have HPut := Lib.hid (HPt.out (fun c h => by cases h))
      simp only [Option.isSome_none] at hHas
      clear HPt HKp HAt
      gi_wp2_with (first | (gi_at_lookup; refine wpListIn_lookup_own_ok_int _ rfl (.tmp 17) (.tmp 18) 116 rfl 99 3 .i64 endsLaw Try.underlying116 Try.underlying3 (zeroInt _) w.heap.size pre.length D rfl HOwn.out (pairV (uf : Int) (ut : Int)) (keyE (uf : Int) (ut : Int)) rfl HKey.out ?_; intro cc hat hwc; clear hat hwc) | (gi_at_mapUpdate; refine wpListIn_mapUpdate_own _ rfl (.tmp 29) (.tmp 30) (.tmp 31) 116 rfl 99 3 endsLaw Try.underlying116 (plainElem Try.prog 3) w.heap.size pre.length D rfl HOwn.out HLm.out (pairV (uf : Int) (ut : Int)) (.int .i64 T) (keyE (uf : Int) (ut : Int)) rfl rfl HKey.out (.lit (.int .i64 T)) [] HTv.out ?_; intro w1 hown1 hgrow1))
      have hk1 : KS (fun _ => False) W w1 := KS.of_grown hgrow1 (fun r e => by injection e with e; subst e; exact HObj.out)
      have hf1 : KeepsFrom W5.heap.size W w1 := KeepsFrom.of_grownBy hgrow1 (fun j e => by injection e with e; omega)
      have hbe1 : Below w.heap.size w w1 := HI.out.bel.grown hgrow1 HI.out.bel.size (fun k e => by injection e with e; omega)
      refine ⟨hf1, hk1, ⟨_, hown1.mono (by rw [List.length_append]; exact Nat.le_refl _), HPut.out⟩, hk1.cells _ _ (fun h => h) HI.out.box rfl, hbe1, Nat.le_refl _⟩
    | some d =>
      simp only [Option.isSome_some] at hHas
      have HAt2 := Lib.hid (HAt.out d rfl)
      by_cases hd : d < T
      · have HPut := Lib.hid (HPt.out (fun c h => by injection h with h; rw [← h]; exact hd))
        clear HPt HKp HAt
        gi_wp2_with (first | (gi_at_lookup; refine wpListIn_lookup_own_ok_int _ rfl (.tmp 17) (.tmp 18) 116 rfl 99 3 .i64 endsLaw Try.underlying116 Try.underlying3 (zeroInt _) w.heap.size pre.length D rfl HOwn.out (pairV (uf : Int) (ut : Int)) (keyE (uf : Int) (ut : Int)) rfl HKey.out ?_; intro cc hat hwc; obtain rfl : d = cc := (by rw [HAt2.out] at hat; injection hat with hat; injection hat); clear hat hwc) | (gi_at_mapUpdate; refine wpListIn_mapUpdate_own _ rfl (.tmp 29) (.tmp 30) (.tmp 31) 116 rfl 99 3 endsLaw Try.underlying116 (plainElem Try.prog 3) w.heap.size pre.length D rfl HOwn.out HLm.out (pairV (uf : Int) (ut : Int)) (.int .i64 T) (keyE (uf : Int) (ut : Int)) rfl rfl HKey.out (.lit (.int .i64 T)) [] HTv.out ?_; intro w1 hown1 hgrow1))
        have hk1 : KS (fun _ => False) W w1 := KS.of_grown hgrow1 (fun r e => by injection e with e; subst e; exact HObj.out)
        have hf1 : KeepsFrom W5.heap.size W w1 := KeepsFrom.of_grownBy hgrow1 (fun j e => by injection e with e; omega)
        have hbe1 : Below w.heap.size w w1 := HI.out.bel.grown hgrow1 HI.out.bel.size (fun k e => by injection e with e; omega)
        refine ⟨hf1, hk1, ⟨_, hown1.mono (by rw [List.length_append]; exact Nat.le_refl _), HPut.out⟩, hk1.cells _ _ (fun h => h) HI.out.box rfl, hbe1, Nat.le_refl _⟩
      · have HPut := Lib.hid (HKp.out d rfl hd)
        clear HPt HKp HAt
        gi_wp2_with (gi_at_lookup; refine wpListIn_lookup_own_ok_int _ rfl (.tmp 17) (.tmp 18) 116 rfl 99 3 .i64 endsLaw Try.underlying116 Try.underlying3 (zeroInt _) w.heap.size pre.length D rfl HOwn.out (pairV (uf : Int) (ut : Int)) (keyE (uf : Int) (ut : Int)) rfl HKey.out ?_; intro cc hat hwc; obtain rfl : d = cc := (by rw [HAt2.out] at hat; injection hat with hat; injection hat); clear hat hwc)
        exact ⟨KeepsFrom.refl _ _, KS.refl _ _, ⟨_, HOwn.out.mono (by rw [List.length_append]; exact Nat.le_succ _), HPut.out⟩, HI.out.box, HI.out.bel, Nat.le_refl _⟩
  case done =>
    rintro DD ys W hD rfl hI hK
    have c5 := box_cell hI.box 0 (.map (some w.heap.size)) rfl
    have HI := Lib.hid hI
    clear hI
    gi_wp2_with fail
    have hgp := grownBy_putObj' W DD (.deferred none)
    refine ⟨by simp, .inl ⟨_, _, rfl, run_takeDeferred hK, ?_⟩⟩
    obtain ⟨D, h1, h2⟩ := HI.out.map
    refine ⟨.map (some w.heap.size), by simp [results, Try.results84, go_sem], w.heap.size, ys.length, D, rfl, h1.kept hgp (fun e => by injection e with e; omega), by have := HL.out; omega, h2, Nat.le_refl _, ?_⟩
    exact HI.out.bel.trans (belowK_b (w := w) (Nat.le_refl _) W DD _ _ (by omega) hK rfl rfl)
  case stop => exact fun _ _ _ _ _ _ h => h.elim
end Go.Proofs.Ytiolmcnngpaapaa

