/-
  Contract of raise.
-/
import Derived.Test.YtiolmcnngpaapaaIt
namespace Go.Proofs.Ytiolmcnngpaapaa
open Go.RowKit Go.Shelf Cy
attribute [local go_sem] Oper.semAt_some

/-- A row of integers that is known whole. -/
def IntRow (w : World) (g : Nat) (x : List Int) : Prop := w.heap[g]? = some (.cells (x.map (Value.int .i64)).toArray 3)
theorem IntRow.cell {w : World} {g : Nat} {x : List Int} (h : IntRow w g x) {i : Nat} (hi : i < x.length) : w.cell? ⟨g, i, none⟩ = some (.int .i64 (x.getD i 0)) :=
  box_cell h i _ (by simp [hi])
theorem IntRow.set {w : World} {g : Nat} {x : List Int} (h : IntRow w g x) (i : Nat) (v : Int) : IntRow (w.setCell ⟨g, i, none⟩ (.int .i64 v)) g (x.set i v) := by
  unfold IntRow at *
  rw [block_set h]
  congr 2
  rw [List.map_set, List.setIfInBounds_toArray]
theorem IntRow.ks {S : Nat → Prop} {w w' : World} {g : Nat} {x : List Int} (h : IntRow w g x) (hk : KS S w w') (hs : ¬ S g) : IntRow w' g x := hk.cells _ _ hs h rfl
/-- Starts that do not grow without bound. -/
def Bd (M : Int) (x : List Int) : Prop := ∀ j, 0 ≤ x.getD j 0 ∧ x.getD j 0 ≤ M
theorem Bd.step {M p : Int} {s : List Int × Bool} {a : Arc} (h : Bd M s.1) (hl : len p a ≤ 3000000) (ht : a.t.toNat < s.1.length) : Bd (M + 3000000) (stepF p s a).1 := by
  intro j
  have h1 := h j; have h2 := h a.f.toNat; have h3 := h a.t.toNat
  unfold stepF; split
  · rw [getD_set _ _ _ _ ht]; split <;> omega
  · omega
/-- Between two rounds of raise. -/
structure RI (w : World) (g n : Nat) (p : Int) (x : List Int) (pre : List Arc) (W : World) : Prop where
  row : IntRow W g (pre.foldl (stepF p) (x, false)).1
  flag : W.heap[w.heap.size + 1]? = some (.cells #[.bool (pre.foldl (stepF p) (x, false)).2] 4)
  sbox : W.heap[w.heap.size]? = some (.cells #[.slice (some ⟨g, 0, none⟩) n n] 25)
  ch : Ch (fun k => k = g) w W
  bd : Bd (600000000000 + 3000000 * pre.length) (pre.foldl (stepF p) (x, false)).1
theorem RI.own {w : World} {g n : Nat} {p : Int} {x : List Int} {B : Nat} (hB : w.heap.size ≤ B) : OwnFrom B (RI w g n p x) := fun _ _ _ _ hs hg hr => by
  have hk := KS.of_grown (S := fun _ => False) hg (fun r e => (hr r e).2)
  exact ⟨hs.row.ks hk (fun h => h), hk.cells _ _ (fun h => h) hs.flag rfl, hk.cells _ _ (fun h => h) hs.sbox rfl,
    hs.ch.trans (Ch.grown (S := fun k => B ≤ k) hg (fun k e => (hr k e).1)) (fun i hi h => by omega), hs.bd⟩
set_option maxRecDepth 100000 in
set_option maxHeartbeats 2000000 in
theorem raise_any (g n : Nat) (p : Int) (x : List Int) (Bl Bp : Nat) (L : List Arc) (a : Option Addr) (c : Nat) (w : World) (hx : x.length = n) (hrow : IntRow w g x) (hbd : Bd 600000000000 x) (hG : Grd n p L)
    (hBl : w.heap[Bl]? = some (sliceObj a L.length c)) (hBp : w.heap[Bp]? = some (intObj p)) (hA : ArcA w a c L) (hL : L.length ≤ 200) (hS1 : Bl ≠ g) (hS2 : Bp ≠ g) (hS3 : ∀ x, a = some x → x.block ≠ g) (hS4 : ∀ x, a = some x → x.block < w.heap.size) (hO : ∀ x ∈ L, ArcOk x) (hp : -1000000 ≤ p ∧ p ≤ 1000000) :
    Calls Try.prog 83 #[.slice (some ⟨g, 0, none⟩) n n, .func (.func 89) #[] #[.pointer (some ⟨Bl, 0, none⟩), .pointer (some ⟨Bp, 0, none⟩)]] w fun e w' =>
      e = .returned (.bool (raise p L x).2) ∧ IntRow w' g (raise p L x).1 ∧ Ch (fun k => k = g) w w' := by
  obtain ⟨W2, hW2⟩ : ∃ V, (w.alloc (.cells #[.slice (some ⟨g, 0, none⟩) n n] 25)).alloc (.cells #[.bool false] 4) = V := ⟨_, rfl⟩
  have hb2 : Below w.heap.size w W2 := by rw [← hW2]; exact below_step (below_new _ _) (below_new _ _)
  have hg : g < w.heap.size := lt_of_block hrow
  have HI0 := Lib.hid (show RI w g n p x [] W2 from by
    refine ⟨hrow.ks (KS.ofBelow (S := fun _ => False) hb2) (fun h => h), ?_, ?_, Ch.ofBelow hb2, by simpa using hbd⟩
    · rw [← hW2]; have := heap_alloc_new (w.alloc (.cells #[.slice (some ⟨g, 0, none⟩) n n] 25)) (.cells #[.bool false] 4); rwa [World.size_alloc] at this
    · rw [← hW2]; exact box_below (heap_alloc_new w _) (below_new _ _))
  have hl1 := lt_of_block hBl
  have hl2 := lt_of_block hBp
  have HS := Lib.hid (lens_told (fun k => k = g ∨ k = w.heap.size + 1) 5 (by omega) Bl Bp L a c p W2 (box_below hBl hb2) (box_below hBp hb2) (hA.below hb2) hL (fun e => by rcases e with e | e; exact hS1 e; omega) (fun e => by rcases e with e | e; exact hS2 e; omega) (fun y hy e => by
    rcases e with e | e
    · exact hS3 y hy e
    · have := hS4 y hy; omega) hO hp)
  have HG := Lib.hid hG
  have hz2 : w.heap.size ≤ W2.heap.size := hb2.size
  have HX := Lib.hid hx
  have HW2 := Lib.hid hW2
  clear hrow hbd hG hBl hBp hA hS1 hS2 hS3 hS4 hO hp hb2 hx hW2 hl1 hl2
  refine (callsIn_wide (n := 6)).1 ?_
  refine callsIn_of_wp_marks Try.func83 rfl trivial ?_ rfl
  simp only [Try.ntmps83, List.size_toArray, List.length_cons, List.length_nil, Nat.reduceAdd, Nat.reduceSub, Array.replicate_succ, Array.replicate_zero, List.push_toArray, List.append_toArray, List.nil_append, List.cons_append]
  gi_wp2_with fail
  rw [HW2.out]
  clear HW2
  refine wpIn_rangeFunc_told rfl (by omega) (gf := 89) (lb := #[.pointer (some ⟨Bl, 0, none⟩), .pointer (some ⟨Bp, 0, none⟩)]) rfl trivial (enters_of Try.func89 (by kernel_rfl) rfl)
    HS.out KS.trans (fun W l o o' _ h hc _ => KS.putObj _ W l o o' h hc) (Below.refl _ _) (fun _ => rfl) (RI w g n p x) (fun _ _ _ => False) (RI.own hz2) (fun _ _ _ _ _ h => h.elim) (fun _ _ _ _ h _ _ => h) HI0.out
    (fun y a' W => ∃ b, a' = { tmps := #[.slice (some ⟨g, 0, none⟩) n n, .func (.func 89) #[] #[.pointer (some ⟨Bl, 0, none⟩), .pointer (some ⟨Bp, 0, none⟩)], .pointer (some ⟨w.heap.size, 0, none⟩), undef, .bool false, .pointer (some ⟨w.heap.size + 1, 0, none⟩), .pointer (some ⟨b, 0, none⟩), .int .i64 (len p y), undef, .func (.func 89) #[] #[.pointer (some ⟨Bl, 0, none⟩), .pointer (some ⟨Bp, 0, none⟩)], endsV y, .int .i64 (len p y), undef, undef, undef, undef, undef, undef, undef, undef, undef, undef, undef, undef, undef, undef, undef, undef, undef, undef, undef, undef], defers := [] } ∧ W.heap[b]? = some (endsObj y)) ?hAx ?assign ?body ?done ?stop
  case hAx =>
    rintro y a' V l o o' ⟨b, rfl, hb⟩ hl ho hc
    refine ⟨b, rfl, (World.putObj_heap_other (fun e => ?_)).trans hb⟩
    subst e; rw [hb] at ho; cases ho; cases hc
  case assign =>
    intro l pre y U K hI hE hK
    obtain ⟨yf, yt, yw, yk⟩ := y
    have hb := below_new U (endsObj ⟨yf, yt, yw, yk⟩)
    have HKf := Lib.hid (hK _ (U.alloc (endsObj ⟨yf, yt, yw, yk⟩)) (KeepsFrom.of_grownBy (grown_of_below hb) (fun j e => by cases e)) (KS.ofBelow hb) (RI.own (Nat.le_refl _) _ _ _ none hI (grown_of_below hb) (fun r e => by cases e)) hE ⟨U.heap.size, rfl, heap_alloc_new _ _⟩)
    clear hK
    gi_wp2
    exact HKf.out
  case body =>
    rintro l pre y a' W hI hE ⟨b, rfl, hsb⟩ hlen
    have hy := HG.out y hE
    have HL := Lib.hid (show (pre ++ [y]).foldl (stepF p) (x, false) = stepF p (pre.foldl (stepF p) (x, false)) y from by rw [List.foldl_append]; rfl)
    have hlen2 : (pre.foldl (stepF p) (x, false)).1.length = n := by rw [fold_len]; exact HX.out
    have HBd := Lib.hid (hI.bd.step (p := p) (a := y) hy.2.2.2.2.2 (by rw [hlen2]; omega))
    have HRow := Lib.hid hI.row
    have HFl := Lib.hid hI.flag
    have HSb := Lib.hid hI.sbox
    have HCh := Lib.hid hI.ch
    have bf := hI.bd y.f.toNat
    have bt := hI.bd y.t.toNat
    obtain ⟨yf, yt, yw, yk⟩ := y
    simp only at hy bf bt
    obtain ⟨uf, rfl⟩ := Int.eq_ofNat_of_zero_le hy.1
    obtain ⟨ut, rfl⟩ := Int.eq_ofNat_of_zero_le hy.2.2.1
    simp only [Int.toNat_natCast] at bf bt
    have r0 := hI.row.cell (i := uf) (by rw [hlen2]; omega)
    have r1 := hI.row.cell (i := ut) (by rw [hlen2]; omega)
    have z1 := box_fz hI.row ut
    have s0 := box_cell hI.sbox 0 (.slice (some ⟨g, 0, none⟩) n n) rfl
    have f0 := box_fz hI.flag 0
    have k0 := box_cell hsb 0 (.int .i64 (uf : Int)) rfl
    have k1 := box_cell hsb 1 (.int .i64 (ut : Int)) rfl
    have HSt := Lib.hid (show stepF p (pre.foldl (stepF p) (x, false)) ⟨(uf : Int), (ut : Int), yw, yk⟩ = if (pre.foldl (stepF p) (x, false)).1.getD ut 0 < (pre.foldl (stepF p) (x, false)).1.getD uf 0 + len p ⟨(uf : Int), (ut : Int), yw, yk⟩ then ((pre.foldl (stepF p) (x, false)).1.set ut ((pre.foldl (stepF p) (x, false)).1.getD uf 0 + len p ⟨(uf : Int), (ut : Int), yw, yk⟩), true) else pre.foldl (stepF p) (x, false) from rfl)
    have hlen3 : ut < (pre.foldl (stepF p) (x, false)).1.length := by rw [hlen2]; omega
    have q1 : (uf : Int) < (n : Int) := by omega
    have q2 : (ut : Int) < (n : Int) := by omega
    have q3 : (0 : Int) ≤ (uf : Int) := by omega
    have q4 : (0 : Int) ≤ (ut : Int) := by omega
    have q5 := hy.2.2.2.2
    have HLn := Lib.hid hlen3
    have q6 : (pre.length : Int) ≤ 200 := by omega
    clear hI hy hlen2 hlen3
    have hne : ¬ g = w.heap.size + 1 := by omega
    have hltW : w.heap.size + 1 < W.heap.size := lt_of_block HFl.out
    have hgW : g < W.heap.size := by omega
    generalize hP : pre.foldl (stepF p) (x, false) = P at *
    obtain ⟨X, F⟩ := P
    clear hP
    simp only at r0 r1 bf bt HSt HLn HRow HFl
    generalize hU : X.getD uf 0 = U at *
    generalize hV : X.getD ut 0 = V at *
    generalize hT : len p ⟨(uf : Int), (ut : Int), yw, yk⟩ = T at *
    clear hU hV hT
    by_cases hlt : V < U + T
    · have HE := Lib.hid (show (pre ++ [(⟨(uf : Int), (ut : Int), yw, yk⟩ : Arc)]).foldl (stepF p) (x, false) = (X.set ut (U + T), true) from by rw [HL.out, HSt.out, if_pos hlt])
      have HBd2 := Lib.hid (show Bd (600000000000 + 3000000 * pre.length + 3000000) (X.set ut (U + T)) from by have := HBd.out; rw [HSt.out, if_pos hlt] at this; exact this)
      clear HL HSt HBd
      have f1 := box_cell HFl.out 0 (.bool F) rfl
      gi_wp2_with fail
      have hc1 : Ch (fun k => k = g) W (W.setCell ⟨g, ut, none⟩ (.int .i64 (U + T))) := Ch.grown (grown_set (w := W) g ut _) (fun k e => by injection e with e; exact e.symm)
      have hf1 : (W.setCell ⟨g, ut, none⟩ (.int .i64 (U + T))).heap[w.heap.size + 1]? = some (.cells #[.bool F] 4) := (hc1.block _ hltW (by omega)).trans HFl.out
      have hc2 : Ch (fun k => k = w.heap.size + 1) (W.setCell ⟨g, ut, none⟩ (.int .i64 (U + T))) ((W.setCell ⟨g, ut, none⟩ (.int .i64 (U + T))).setCell ⟨w.heap.size + 1, 0, none⟩ (.bool true)) := Ch.grown (grown_set (w := W.setCell ⟨g, ut, none⟩ (.int .i64 (U + T))) (w.heap.size + 1) 0 _) (fun k e => by injection e with e; exact e.symm)
      refine ⟨((KeepsOthers.setCell W ⟨g, ut, none⟩ (.int .i64 (U + T))).trans (KeepsOthers.setCell _ ⟨w.heap.size + 1, 0, none⟩ (.bool true))).from _, KS.ofCh ((hc1.mono (S' := fun k => k = g ∨ k = w.heap.size + 1) (fun _ h => .inl h)).trans (hc2.mono (S' := fun k => k = g ∨ k = w.heap.size + 1) (fun _ h => .inr h)) (fun _ _ h => h)), ?_⟩
      refine ⟨?_, ?_, ?_, ?_, ?_⟩
      · rw [HE.out]; exact (hc2.block g (Nat.lt_of_lt_of_le hgW hc1.size) (by omega)).trans (HRow.out.set ut (U + T))
      · rw [HE.out]; exact block_set hf1 (.bool true)
      · exact (hc2.block _ (by have := hc1.size; omega) (by omega)).trans ((hc1.block _ (by omega) (by omega)).trans HSb.out)
      · exact (HCh.out.trans hc1 (fun _ _ h => h)).trans (hc2) (fun i hi h => by omega)
      · rw [HE.out]; have := HBd2.out; rw [List.length_append]; simp only [List.length_cons, List.length_nil]; rw [show (600000000000 + 3000000 * ((pre.length + (0 + 1) : Nat) : Int)) = 600000000000 + 3000000 * pre.length + 3000000 by push_cast; omega]; exact this
    · have HE := Lib.hid (show (pre ++ [(⟨(uf : Int), (ut : Int), yw, yk⟩ : Arc)]).foldl (stepF p) (x, false) = (X, F) from by rw [HL.out, HSt.out, if_neg hlt])
      have HBd2 := Lib.hid (show Bd (600000000000 + 3000000 * pre.length + 3000000) X from by have := HBd.out; rw [HSt.out, if_neg hlt] at this; exact this)
      clear HL HSt HBd
      gi_wp2_with fail
      refine ⟨KeepsFrom.refl _ _, KS.refl _ _, ?_⟩
      refine ⟨by rw [HE.out]; exact HRow.out, by rw [HE.out]; exact HFl.out, HSb.out, HCh.out, ?_⟩
      rw [HE.out]; have := HBd2.out; rw [List.length_append]; simp only [List.length_cons, List.length_nil]; rw [show (600000000000 + 3000000 * ((pre.length + (0 + 1) : Nat) : Int)) = 600000000000 + 3000000 * pre.length + 3000000 by push_cast; omega]; exact this
  case done =>
    rintro D ys W hD rfl hI hK
    have f0 := box_cell hI.flag 0 _ rfl
    have HR := Lib.hid hI.row
    have HC := Lib.hid hI.ch
    have HFl := Lib.hid hI.flag
    clear hI
    gi_wp2_with fail
    have hk := KS.putObj (fun _ => False) W D _ (.deferred none) hK rfl
    refine ⟨by simp, .inl ⟨_, _, rfl, run_takeDeferred hK, ?_⟩⟩
    refine ⟨.bool (raise p ys x).2, by simp [results, Try.results83, go_sem]; rfl, rfl, HR.out.ks hk (fun h => h), ?_⟩
    exact HC.out.trans (Ch.grown (S := fun k => w.heap.size ≤ k) (grownBy_putObj' W D (.deferred none)) (fun k e => by injection e with e; omega)) (fun i hi h => by omega)
  case stop => exact fun _ _ _ _ _ _ h => h.elim
end Go.Proofs.Ytiolmcnngpaapaa

