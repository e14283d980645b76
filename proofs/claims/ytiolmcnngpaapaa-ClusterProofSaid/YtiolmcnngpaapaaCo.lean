/-
  The orders in memory; the recursive closure that lists them.
-/
import Derived.Test.YtiolmcnngpaapaaVc
import Derived.Test.YtiolmcnngpaapaaSl
import Derived.Test.YtiolmcnngpaapaaLv
import Derived.Deep.AppendLies
import Derived.Laws.CopyOwn
import Derived.Laws.EntriesVeiled
namespace Go.Proofs.Ytiolmcnngpaapaa
open Go.RowKit Go.Shelf Cl

abbrev boxP (b : Nat) : Value := .pointer (some ⟨b, 0, none⟩)
abbrev chooseV (B : Nat) : Value := .func (.func 90) #[] #[boxP B, boxP (B + 3), boxP (B + 1), boxP (B + 4)]
abbrev rowVal (p : Nat × List Int) : Value := rowV p.1 p.2.length
/-- A list of rows of integers, in blocks from C on. -/
structure OrdsO (w : World) (C : Nat) (v : Value) (P : List (Nat × List Int)) : Prop where
  own : w.ownsRow C 25 1 v P.length (P.map rowVal)
  rows : ∀ p ∈ P, C ≤ p.1 ∧ IntRow w p.1 p.2
theorem OrdsO.below {w w' : World} {C : Nat} {v : Value} {P : List (Nat × List Int)} (h : OrdsO w C v P) (hb : Below w.heap.size w w') : OrdsO w' C v P :=
  ⟨own_below h.own hb, fun p hp => ⟨(h.rows p hp).1, box_below (h.rows p hp).2 hb⟩⟩
theorem OrdsO.ch {S : Nat → Prop} {w w' : World} {C : Nat} {v : Value} {P : List (Nat × List Int)} (h : OrdsO w C v P) (hc : Ch S w w') (hS : ∀ k, C ≤ k → ¬ S k) : OrdsO w' C v P :=
  ⟨own_ch h.own hc (fun k e => hS k (h.own.lt k e).1), fun p hp => ⟨(h.rows p hp).1, (h.rows p hp).2.ks (KS.ofCh hc) (hS _ (h.rows p hp).1)⟩⟩
/-- What the closure stands on: the boxes of everyOrder, in blocks from B on. -/
structure CoAt (B t : Nat) (P : List (Nat × List Int)) (X : List Int) (w : World) : Prop where
  tb : w.heap[B]? = some (.cells #[.int .i64 (t : Int)] 3)
  lb : ∃ v, w.heap[B + 1]? = some (.cells #[v] 35) ∧ OrdsO w (B + 5) v P
  row : IntRow w (B + 2) X
  xl : X.length = t
  ob : w.heap[B + 3]? = some (.cells #[rowV (B + 2) t] 25)
  cb : w.heap[B + 4]? = some (.cells #[chooseV B] 124)
theorem CoAt.below {B t : Nat} {P : List (Nat × List Int)} {X : List Int} {w w' : World} (h : CoAt B t P X w) (hb : Below w.heap.size w w') : CoAt B t P X w' := by
  obtain ⟨v, h1, h2⟩ := h.lb
  exact ⟨box_below h.tb hb, ⟨v, box_below h1 hb, h2.below hb⟩, box_below h.row hb, h.xl, box_below h.ob hb, box_below h.cb hb⟩
theorem CoAt.setRow {B t : Nat} {P : List (Nat × List Int)} {X : List Int} {w : World} (h : CoAt B t P X w) (k : Nat) (x : Int) : CoAt B t P (X.set k x) (w.setCell ⟨B + 2, k, none⟩ (.int .i64 x)) := by
  have hc : Ch (fun i => i = B + 2) w (w.setCell ⟨B + 2, k, none⟩ (.int .i64 x)) := Ch.grown (grown_set (w := w) (B + 2) k _) (fun i e => by injection e with e; exact e.symm)
  obtain ⟨v, h1, h2⟩ := h.lb
  exact ⟨(hc.block B (lt_of_block h.tb) (by omega)).trans h.tb, ⟨v, (hc.block (B + 1) (lt_of_block h1) (by omega)).trans h1, h2.ch hc (fun i hi e => by omega)⟩, h.row.set k x, by simpa using h.xl, (hc.block (B + 3) (lt_of_block h.ob) (by omega)).trans h.ob, (hc.block (B + 4) (lt_of_block h.cb) (by omega)).trans h.cb⟩
/-- What the closure leaves. -/
def ChoPost (B t k : Nat) (P : List (Nat × List Int)) (X : List Int) (w : World) (e : Ending) (w' : World) : Prop :=
  e = .returned (.tuple #[]) ∧ ∃ P' X', Hid (CoAt B t (P ++ P') X' w') ∧ P'.map (·.2) = chooseO t (t - k) (X.take k) ∧ X'.take k = X.take k ∧ Hid (Below B w w')
theorem chooseO_succ {t k : Nat} {f : Nat} (h : t - k = f + 1) (pre : List Int) : chooseO t (t - k) pre = (iota t).flatMap fun x => if pre.contains x then [] else chooseO t (t - (k + 1)) (pre ++ [x]) := by
  rw [h, chooseO, show t - (k + 1) = f by omega]
def partO (t k : Nat) (pre : List Int) (j : Nat) : List (List Int) := ((iota t).take j).flatMap fun x => if pre.contains x then [] else chooseO t (t - (k + 1)) (pre ++ [x])
theorem partO_succ {t k : Nat} {pre : List Int} {j : Nat} (h : j < t) : partO t k pre (j + 1) = partO t k pre j ++ (if pre.contains (j : Int) then [] else chooseO t (t - (k + 1)) (pre ++ [(j : Int)])) := by
  unfold partO; rw [iota_take_succ h, List.flatMap_append]; simp
theorem partO_all {t k : Nat} {pre : List Int} {f : Nat} (h : t - k = f + 1) : partO t k pre t = chooseO t (t - k) pre := by
  unfold partO; rw [chooseO_succ h, List.take_of_length_le (by rw [iota_len]; exact Nat.le_refl _)]
theorem info_rows2 : (Try.prog.info? 25).map (fun i => (i.zero, i.size, i.bytes)) = some (some (.slice none 0 0), 1, 24) := by kernel_rfl
set_option maxRecDepth 100000 in
set_option maxHeartbeats 4000000 in
theorem choose_zero (B t : Nat) (ht : t ≤ 100) (P : List (Nat × List Int)) (hP : P.length ≤ 100000) (X : List Int) (w : World) (h : CoAt B t P X w) (hB : B + 5 ≤ w.heap.size) :
    Calls Try.prog 90 #[.int .i64 (t : Int), boxP B, boxP (B + 3), boxP (B + 1), boxP (B + 4)] w (ChoPost B t t P X w) := by
  have x0 : w.cell? ⟨B, 0, none⟩ = some (.int .i64 (t : Int)) := box_cell h.tb 0 _ rfl
  have hmk := make_ints t (by omega)
  have HH := Lib.hid h
  have e1 : ((t : Int) == (t : Int)) = true := by simp
  have t0 : (0 : Int) ≤ (t : Int) := by omega
  clear h
  go_enter Try.func90, Try.ntmps90
  go_upto_region 2 with (fail)
  have HG := Lib.hid (below_new w (.cells (Array.replicate t (Value.int .i64 0)) 3))
  have HN := Lib.hid (show (w.alloc (.cells (Array.replicate t (Value.int .i64 0)) 3)).heap[w.heap.size]? = some (.cells (List.replicate t (Value.int .i64 0)).toArray 3) from by rw [List.toArray_replicate]; exact heap_alloc_new w _)
  have H1 := Lib.hid (HH.out.below HG.out)
  clear hmk
  generalize w.alloc (.cells (Array.replicate t (Value.int .i64 0)) 3) = W1 at *
  have y0 : W1.cell? ⟨B + 3, 0, none⟩ = some (rowV (B + 2) t) := box_cell H1.out.ob 0 _ rfl
  have hxl := HH.out.xl
  have Q1 := Lib.hid (show (X.map (Value.int .i64)).length = Nat.min t t from by rw [List.length_map, hxl]; exact (Nat.min_self t).symm)
  have Q2 := Lib.hid (show ∀ (j : Nat) (u : Value), (X.map (Value.int .i64))[j]? = some u → W1.cell? ((⟨B + 2, 0, none⟩ : Addr).add j) = some u from fun j u hu => by
    have h2 := box_cell (o := j) H1.out.row u (by rw [List.getElem?_toArray]; exact hu)
    cases j <;> simpa [Addr.add] using h2)
  have Q3 := Lib.hid (show 0 + (X.map (Value.int .i64)).length ≤ (List.replicate t (Value.int .i64 0)).length by simp [hxl])
  have Q4 := Lib.hid (show ∀ u ∈ X.map (Value.int .i64), u.oneCell' = true from by intro u hu; obtain ⟨z, _, rfl⟩ := List.mem_map.1 hu; rfl)
  have Q5 := Lib.hid (show splice (List.replicate t (Value.int .i64 0)) 0 (X.map (Value.int .i64)) = X.map (Value.int .i64) from by unfold splice; simp [hxl])
  have HXl := Lib.hid hxl
  generalize hcs : X.map (Value.int .i64) = cs at *
  have HCs := Lib.hid hcs
  clear hcs hxl
  go_upto_region 3 with (with_reducible refine wpList_copy_splice rfl (.tmp 13) (.tmp 14) 25 25 rfl 3 Try.underlying25 size_int _ _ t t t t rfl rfl w.heap.size 0 (List.replicate t (Value.int .i64 0)) 3 HN.out cs Q1.out (fun _ => ⟨rfl, _, rfl, Q2.out⟩) Q3.out Q4.out w.heap.size w HG.out (Nat.le_refl _) ?_; intro w2 H2 B2)
  have HR2 := Lib.hid (show IntRow w2 w.heap.size X from by
    unfold IntRow; rw [H2.out, Q5.out, HCs.out])
  have H3 := Lib.hid (HH.out.below B2)
  have HB2 := Lib.hid B2
  clear H2 B2 HN HG H1 Q1 Q2 Q3 Q4 Q5 HCs y0
  obtain ⟨v, l1, l2⟩ := H3.out.lb
  have z0 : w2.cell? ⟨B + 1, 0, none⟩ = some v := box_cell l1 0 _ rfl
  obtain ⟨va, vc, rfl, -⟩ := own_slice l2.own
  have L1 := Lib.hid l1; have L2 := Lib.hid l2
  obtain ⟨i0, hi, hz0, hz1, hz2⟩ := info_parts info_rows2
  have hsz := HB2.out.size
  have HOwn := Lib.hid (own_below l2.own (below_new w2 (.cells #[rowV w.heap.size t] 25)))
  have HNw := Lib.hid (cell_one_new w2 (rowV w.heap.size t) 25)
  clear l1 l2
  go_wp2_with (at_builtin; refine wpList_append_lies _ rfl _ _ 35 rfl (B + 5) 25 i0 _ 1 24 Try.underlying35 hi hz0 hz1 hz2 rfl (by decide) _ P.length (P.map rowVal) rfl HOwn.out ⟨w2.heap.size, 0, none⟩ 1 1 [rowV w.heap.size t] rfl rfl HNw.out ?c2 (by decide) ?c3 ?c4 ?c5 _ rfl ?_)
  case c2 => intro u hu; simp at hu; subst hu; rfl
  case c3 => unfold maxLen; omega
  case c4 => omega
  case c5 => simp; omega
  intro g2 cap w3 hown hgrow hat hlt
  have HA := Lib.hid (H3.out.below (below_new w2 (.cells #[rowV w.heap.size t] 25)))
  have HRA := Lib.hid (show IntRow (w2.alloc (.cells #[rowV w.heap.size t] 25)) w.heap.size X from box_below HR2.out (below_new _ _))
  have HL2a := Lib.hid (L2.out.below (below_new w2 (.cells #[rowV w.heap.size t] 25)))
  have hgo : ∀ k, (Value.slice va P.length vc).ownBlock = some k → B + 5 ≤ k ∧ ∃ cs, (w2.alloc (.cells #[rowV w.heap.size t] 25)).heap[k]? = some (.cells cs 25) := fun k e => ⟨(HOwn.out.lt k e).1, own_block HOwn.out e⟩
  have HBa := Lib.hid (below_step HB2.out (below_new w2 (.cells #[rowV w.heap.size t] 25)))
  have HB3 := Lib.hid (show Below B w w3 from (HBa.out.mono (by omega)).grown hgrow (by have := HBa.out.size; omega) (fun k e => by have := (hgo k e).1; omega))
  have hL1a := box_below L1.out (below_new w2 (.cells #[rowV w.heap.size t] 25))
  have hlg : B + 5 ≤ g2 := by
    rcases hat with e | e
    · exact (hgo g2 e).1
    · omega
  generalize w2.alloc (.cells #[rowV w.heap.size t] 25) = wa at *
  have K : ∀ k cs ty, wa.heap[k]? = some (.cells cs ty) → (k < B + 5 ∨ ty ≠ 25) → w3.heap[k]? = some (.cells cs ty) := fun k cs ty h1 h2 => (hgrow.block k (lt_of_block h1) (fun e => by
    obtain ⟨h3, cs2, h4⟩ := hgo k e.symm
    rw [h1] at h4; injection h4 with h4; injection h4 with h4 h5
    rcases h2 with h2 | h2
    · omega
    · exact h2 h5)).trans h1
  have M1 := Lib.hid (K B _ _ HA.out.tb (.inl (by omega)))
  have M2 := Lib.hid (K (B + 1) _ _ hL1a (.inl (by omega)))
  have M3 := Lib.hid (show IntRow w3 (B + 2) X from K (B + 2) _ _ HA.out.row (.inl (by omega)))
  have M4 := Lib.hid (K (B + 3) _ _ HA.out.ob (.inl (by omega)))
  have M5 := Lib.hid (K (B + 4) _ _ HA.out.cb (.inl (by omega)))
  have M6 := Lib.hid (show OrdsO w3 (B + 5) (.slice (some ⟨g2, 0, none⟩) (P.length + 1) cap) (P ++ [(w.heap.size, X)]) from by
    refine ⟨?_, fun p hp => ?_⟩
    · rw [List.length_append, List.map_append]
      have : rowVal (w.heap.size, X) = rowV w.heap.size t := by show rowV w.heap.size X.length = _; rw [HXl.out]
      simp only [List.map_cons, List.map_nil, this, List.length_cons, List.length_nil]
      exact hown
    · rcases List.mem_append.1 hp with hp | hp
      · have := HL2a.out.rows p hp
        exact ⟨this.1, K _ _ _ this.2 (.inr (by decide))⟩
      · rw [List.mem_singleton] at hp; subst hp
        exact ⟨hB, K _ _ _ HRA.out (.inr (by decide))⟩)
  have c0 : w3.cell? ⟨B + 1, 0, none⟩ = some (.slice va P.length vc) := box_cell M2.out 0 _ rfl
  have f0 : w3.frozen? ⟨B + 1, 0, none⟩ = false := box_fz M2.out 0
  have hl3 : B + 1 < w3.heap.size := lt_of_block M2.out
  clear K hgo hown hgrow hat hL1a HA HRA HL2a HBa hi hz0 hz1 hz2 HOwn HNw L1 L2 z0 HR2 H3 hsz hlt
  go_wp2_with fail
  go_end0
  have hset := block_set (o := 0) M2.out (.slice (some ⟨g2, 0, none⟩) (P.length + 1) cap)
  have hc : Ch (fun i => i = B + 1) w3 (w3.setCell ⟨B + 1, 0, none⟩ (.slice (some ⟨g2, 0, none⟩) (P.length + 1) cap)) := Ch.grown (grown_set (w := w3) (B + 1) 0 _) (fun i e => by injection e with e; exact e.symm)
  refine ⟨rfl, [(w.heap.size, X)], X, Lib.hid ⟨?_, ⟨_, hset, M6.out.ch hc (fun k h1 h2 => by omega)⟩, M3.out.ks (KS.ofCh hc) (by omega), HXl.out, ?_, ?_⟩, ?_, rfl, Lib.hid (HB3.out.grown (grown_set (w := w3) (B + 1) 0 _) (by omega) (fun k e => by injection e with e; omega))⟩
  · exact (hc.block B (lt_of_block M1.out) (by omega)).trans M1.out
  · exact (hc.block (B + 3) (lt_of_block M4.out) (by omega)).trans M4.out
  · exact (hc.block (B + 4) (lt_of_block M5.out) (by omega)).trans M5.out
  · rw [Nat.sub_self, List.take_of_length_le (by rw [HXl.out]; exact Nat.le_refl _)]; rfl
end Go.Proofs.Ytiolmcnngpaapaa
