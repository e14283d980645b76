/-
  The contract of the package's Extension. Condition: the table of 64 words reads as the program's text lays it.
-/
import Derived.Test.YtbaggjhjkignkaaDoorEdge1
import Derived.Test.YtbaggjhjkignkaaDoorVerify
namespace Go.Proofs.YtbaggjhjkignkaaDoor
open Go.RowKit Go.Shelf Tree

attribute [local go_sem] Oper.semAt_some

theorem nextOf_snoc (d : Nat) (fs : List Fk) (f : Fk) : nextOf d (fs ++ [f]) = f.next := by unfold nextOf; rw [List.foldl_append]; rfl

theorem edgeF_length (m first fin M : Nat) : (edgeF m first fin M).length ≤ m := by
  unfold edgeF
  exact Nat.le_trans (List.takeWhile_sublist _).length_le (forksF_length _ _ _ _)

set_option maxRecDepth 100000 in
set_option maxHeartbeats 16000000 in
theorem ext_yes (L : List ByteArray) (M : Nat) (b off c : Nat) (w : World) (ht : Tab w) (hA : StrA w (some ⟨b, off, none⟩) c L) (hx : ∀ x ∈ L, x.size ≤ 1000) (hM1 : 1 ≤ M) (hM2 : M ≤ L.length) (hL : L.length < 1000000) :
    Calls Tryd.prog 18 #[.slice (some ⟨b, off, none⟩) L.length c, .int .i64 M] w (ProofEnd (extS Sha.shaS L M) 0 w) := by
  refine (callsIn_wide (n := 6)).1 ?_
  refine callsIn_of_wp_marks Tryd.func18 rfl trivial ?_ rfl
  simp only [Tryd.ntmps18, List.size_toArray, List.length_cons, List.length_nil, Nat.reduceAdd, Nat.reduceSub, Array.replicate_succ, Array.replicate_zero, List.push_toArray, List.append_toArray, List.nil_append, List.cons_append]
  have h1 : decide ((M : Int) < 0) = false := by simp
  have h2 : decide ((L.length : Int) < (M : Int)) = false := by simp; omega
  have h3 : ((M : Int) == 0) = false := by simp; omega
  gi_wp2_with (refine ⟨trivial, ?_⟩; gi_at_call 34; refine (edge_in _ _ _ _).mono ?_; rintro e w' ⟨rfl, rfl⟩)
  obtain ⟨W4, hW4⟩ : ∃ V, V = ((((w.alloc (.cells #[.slice (some ⟨b, off, none⟩) L.length c] 26)).alloc (.cells #[.slice none 0 0] 26)).alloc (.cells #[.int .i64 0] 3)).alloc (.cells #[.int .i64 (L.length : Int)] 3)).alloc (.cells #[.int .i64 (M : Int)] 3) := ⟨_, rfl⟩
  rw [← hW4]
  have hb4 : Below w.heap.size w W4 := by rw [hW4]; exact (((((Below.refl _ w).alloc (Nat.le_refl _) _).alloc (by simp) _).alloc (by simp; omega) _).alloc (by simp; omega) _).alloc (by simp; omega) _
  have hs4 : W4.heap.size = w.heap.size + 5 := by rw [hW4]; simp
  have b0 : Boxed W4 w.heap.size 26 (.slice (some ⟨b, off, none⟩) L.length c) := by rw [hW4]; exact ((((Boxed.new w _ _).alloc _).alloc _).alloc _).alloc _
  have b1 : Boxed W4 (w.heap.size + 1) 26 (.slice none 0 0) := by
    rw [hW4]
    have := Boxed.new (w.alloc (.cells #[.slice (some ⟨b, off, none⟩) L.length c] 26)) 26 (.slice none 0 0)
    rw [World.size_alloc] at this
    exact ((this.alloc _).alloc _).alloc _
  have b2 : Boxed W4 (w.heap.size + 1 + 1) 3 (.int .i64 0) := by
    rw [hW4]
    have := Boxed.new ((w.alloc (.cells #[.slice (some ⟨b, off, none⟩) L.length c] 26)).alloc (.cells #[.slice none 0 0] 26)) 3 (.int .i64 0)
    rw [World.size_alloc, World.size_alloc] at this
    exact (this.alloc _).alloc _
  have b3 : Boxed W4 (w.heap.size + 1 + 1 + 1) 3 (.int .i64 (L.length : Int)) := by
    rw [hW4]
    have := Boxed.new (((w.alloc (.cells #[.slice (some ⟨b, off, none⟩) L.length c] 26)).alloc (.cells #[.slice none 0 0] 26)).alloc (.cells #[.int .i64 0] 3)) 3 (.int .i64 (L.length : Int))
    rw [World.size_alloc, World.size_alloc, World.size_alloc] at this
    exact this.alloc _
  have b4 : Boxed W4 (w.heap.size + 1 + 1 + 1 + 1) 3 (.int .i64 (M : Int)) := by
    rw [hW4]
    have := Boxed.new ((((w.alloc (.cells #[.slice (some ⟨b, off, none⟩) L.length c] 26)).alloc (.cells #[.slice none 0 0] 26)).alloc (.cells #[.int .i64 0] 3)).alloc (.cells #[.int .i64 (L.length : Int)] 3)) 3 (.int .i64 (M : Int))
    rw [World.size_alloc, World.size_alloc, World.size_alloc, World.size_alloc] at this
    exact this
  clear hW4
  have HTA := Lib.hid (And.intro ht hA)
  clear ht hA h1 h2 h3
  refine wpIn_rangeFunc_far rfl (by omega) (gf := 49) (lb := #[.pointer (some ⟨w.heap.size + 1 + 1 + 1, 0, none⟩), .pointer (some ⟨w.heap.size + 1 + 1 + 1 + 1, 0, none⟩)]) rfl trivial (enters_of Tryd.func49 (by kernel_rfl) rfl)
    (edge_stops 5 (w.heap.size + 1 + 1 + 1) (w.heap.size + 1 + 1 + 1 + 1) L.length M (by omega) (by omega) hM1 hM2 W4 b3.cell b4.cell) (Below.refl _ _) (fun _ => rfl)
    (fun bnd (pre : List (FkN L.length)) W => (∃ v, Boxed W (w.heap.size + 1) 26 v ∧ W.ownsRow (W4.heap.size + 7) 9 1 v (asides L (pre.map (·.1))).length (strV (asides L (pre.map (·.1)))) ∧ (∀ k, v.ownBlock = some k → k < bnd) ∧ W4.heap.size ≤ bnd) ∧ Boxed W (w.heap.size + 1 + 1) 3 (.int .i64 (nextOf 0 (pre.map (·.1)) : Nat)) ∧ Boxed W w.heap.size 26 (.slice (some ⟨b, off, none⟩) L.length c) ∧ Below w.heap.size w W)
    (fun _ _ _ => False)
    (fun bnd => OwnFrom.and (Own.from (holdsRow_own (W4.heap.size + 7) (w.heap.size + 1) 26 9 1 (fun pre : List (FkN L.length) => (asides L (pre.map (·.1))).length) (fun pre => strV (asides L (pre.map (·.1)))) (fun _ v => (∀ k, v.ownBlock = some k → k < bnd) ∧ W4.heap.size ≤ bnd)) _)
      (OwnFrom.and (Own.from (boxed_own (w.heap.size + 1 + 1) 3 (fun pre : List (FkN L.length) => .int .i64 (nextOf 0 (pre.map (·.1)) : Nat))) _)
        (OwnFrom.and (Own.from (boxed_own w.heap.size 26 (fun _ => .slice (some ⟨b, off, none⟩) L.length c)) _) (ownFrom_below (Nat.le_refl _) (by omega)))))
    (fun _ _ _ _ _ hs _ _ => hs)
    ⟨⟨_, b1, World.ownsRow_nil _ _ _ _, (fun k e => by cases e), Nat.le_refl _⟩, b2, b0, hb4⟩
    (fun U (x : FkN L.length) a' W => ∃ Bb : Nat, U.heap.size ≤ Bb ∧ W.heap[Bb]? = some (.cells (fkC x.1) 49 (0, 0)) ∧ (∀ (j : Nat) (o : Obj), U.heap[j]? = some o → o.isCells = true → W.heap[j]? = some o) ∧ a' = { tmps := #[.slice (some ⟨b, off, none⟩) L.length c, .int .i64 (M : Nat), .pointer (some ⟨w.heap.size, 0, none⟩), undef, .slice none 0 0, .int .i64 0, .pointer (some ⟨w.heap.size + 1, 0, none⟩), .pointer (some ⟨w.heap.size + 1 + 1, 0, none⟩), .pointer (some ⟨Bb, 0, none⟩), .int .i64 (M : Nat), .bool false, .bool false, .int .i64 (M : Nat), .slice (some ⟨b, off, none⟩) L.length c, .int .i64 (L.length : Nat), .bool false, .bool false, .int .i64 (M : Nat), .bool false, .slice (some ⟨b, off, none⟩) L.length c, .int .i64 (L.length : Nat), .int .i64 (M : Nat), .func (.func 49) #[] #[.pointer (some ⟨w.heap.size + 1 + 1 + 1, 0, none⟩), .pointer (some ⟨w.heap.size + 1 + 1 + 1 + 1, 0, none⟩)], fkV x.1, undef, undef, undef, undef, undef, undef, undef, undef, undef, undef, undef, undef, undef, undef, undef, undef, undef, undef, undef, undef, undef], defers := [] })
    (fun U x a' u A B row hs hg hr => by
      obtain ⟨Bb, h1, h2, h3, h4⟩ := hs
      have keep : ∀ (j : Nat) (o : Obj), A.heap[j]? = some o → o.isCells = true → B.heap[j]? = some o := fun j o hj ho => (hg.block _ (Array.getElem?_eq_some_iff.1 hj).1 (fun e => by
        obtain ⟨_, o', ho', hc⟩ := hr _ e.symm
        rw [hj] at ho'; cases ho'; rw [ho] at hc; cases hc)).trans hj
      exact ⟨Bb, h1, keep _ _ h2 rfl, fun j o hj ho => keep _ _ (h3 j o hj ho) ho, h4⟩)
    ?assign ?body ?done ?stop
  case assign =>
    rintro l bnd pre ⟨⟨f1, f2, f3, f4⟩, hwi⟩ U K hbk ⟨⟨v, hv, hrow, hlt, hu4⟩, hbn, hb0, hbel⟩ hK
    unfold fkV at hK ⊢
    unfold fkC at hK
    gi_wp2
    refine hK _ _ ((KeepsOthers.alloc _ _).from _) ⟨⟨v, hv.alloc _, hrow.alloc _, hlt, hu4⟩, hbn.alloc _, hb0.alloc _, hbel.alloc hbel.size _⟩ ⟨U.heap.size, Nat.le_refl _, heap_alloc_new _ _, fun j o hj _ => (heap_alloc_old _ _ (Array.getElem?_eq_some_iff.1 hj).1).trans hj, rfl⟩
  case body =>
    rintro l bnd pre ⟨⟨f1, f2, f3, f4⟩, hwi⟩ U a' W hbk hsq ⟨⟨v, hv, hrow, hlt, hu4⟩, hbn, hb0, hbel⟩ ⟨Bb, hBb, hcb, hkeep, rfl⟩ hlen _ _
    have hBW := (Array.getElem?_eq_some_iff.1 hcb).1
    have hUW : U.heap.size ≤ W.heap.size := by omega
    gi_wp2
    rename_i K1 hK1
    refine wpIn_region_any (by kernel_rfl) ?_
    change wpAnyIn _ _ _ _ _ _ _ _ _ W.drew
    obtain ⟨i0, hi0, hz0, hz1, hz2⟩ := info_parts info_string
    have hbd : Below W.heap.size W W.drew := (Below.refl _ W).drew
    have k0 : ∀ V, Below W.heap.size W V → V.cell? ⟨w.heap.size, 0, none⟩ = some (.slice (some ⟨b, off, none⟩) L.length c) := fun V h => (h.cell (p := ⟨w.heap.size, 0, none⟩) hb0.lt).trans hb0.cell
    have k1 : ∀ V, Below W.heap.size W V → V.cell? ⟨w.heap.size + 1, 0, none⟩ = some v := fun V h => (h.cell (p := ⟨w.heap.size + 1, 0, none⟩) hv.lt).trans hv.cell
    have kf : ∀ V, Below W.heap.size W V → V.heap[Bb]? = some (.cells (fkC ⟨f1, f2, f3, f4⟩) 49 (0, 0)) := fun V h => (h.block _ hBW).trans hcb
    have kr : ∀ V, Below W.heap.size W V → V.ownsRow (W4.heap.size + 7) 9 1 v (asides L (pre.map (·.1))).length (strV (asides L (pre.map (·.1)))) := fun V h => StrOwn.below hrow h
    have huf : (Tryd.prog.info? 49).map (·.size) = some (fkC ⟨f1, f2, f3, f4⟩).size := by kernel_rfl
    have sib : ∀ V, Below W.heap.size W V → Calls Tryd.prog 31 #[.agg (fkC ⟨f1, f2, f3, f4⟩), .slice (some ⟨b, off, none⟩) L.length c] V (StrEnd (rootS Sha.shaS (Fk.aside ⟨f1, f2, f3, f4⟩ L)) V) := fun V h =>
      sibling_any ⟨f1, f2, f3, f4⟩ b off c L V hwi (HTA.out.1.below (hbel.trans (h.mono hbel.size))) (HTA.out.2.below (hbel.trans (h.mono hbel.size))) hx
    have hm1 : (asides L (pre.map (·.1))).length + 1 ≤ maxLen := by unfold asides maxLen; rw [List.length_map, List.length_map]; omega
    have hm2 : ((asides L (pre.map (·.1))).length + 1) * 16 ≤ 140737488355328 := by unfold asides; rw [List.length_map, List.length_map]; omega
    have hvl : ∀ k, v.ownBlock = some k → W4.heap.size + 7 ≤ k ∧ k < W.heap.size := hrow.lt
    have hW4W : W4.heap.size + 7 ≤ W.heap.size := by omega
    have app : ∀ A V, Below W.heap.size W A → A.grownBy V v.ownBlock → Below (W4.heap.size + 7) W V ∧ ∀ j, j < W.heap.size → some j ≠ v.ownBlock → V.heap[j]? = W.heap[j]? := fun A V h hg =>
      ⟨(h.mono hW4W).grown hg (by have := h.size; omega) (fun k e => (hvl k e).1), fun j hj hne => (hg.block j (by have := h.size; omega) hne).trans (h.block j hj)⟩
    have ap1 : ∀ V : World, (Below (W4.heap.size + 7) W V ∧ ∀ j, j < W.heap.size → some j ≠ v.ownBlock → V.heap[j]? = W.heap[j]?) → Boxed V (w.heap.size + 1) 26 v := fun V h => (h.1.block _ (by omega)).trans hv
    have fin : ∀ (V : World) (_ : Below (W4.heap.size + 7) W V ∧ ∀ j, j < W.heap.size → some j ≠ v.ownBlock → V.heap[j]? = W.heap[j]?) (v' : Value), V.ownsRow (W4.heap.size + 7) 9 1 v' ((asides L (pre.map (·.1))).length + 1) (strV (asides L (pre.map (·.1))) ++ [.string (rootS Sha.shaS (Fk.aside ⟨f1, f2, f3, f4⟩ L))]) → (∀ k, v'.ownBlock = some k → W4.heap.size + 7 ≤ k ∧ k < V.heap.size) →
        ∀ x28 x29 : Value, K1 { tmps := #[.slice (some ⟨b, off, none⟩) L.length c, .int .i64 (M : Nat), .pointer (some ⟨w.heap.size, 0, none⟩), undef, .slice none 0 0, .int .i64 0, .pointer (some ⟨w.heap.size + 1, 0, none⟩), .pointer (some ⟨w.heap.size + 1 + 1, 0, none⟩), .pointer (some ⟨Bb, 0, none⟩), .int .i64 (M : Nat), .bool false, .bool false, .int .i64 (M : Nat), .slice (some ⟨b, off, none⟩) L.length c, .int .i64 (L.length : Nat), .bool false, .bool false, .int .i64 (M : Nat), .bool false, .slice (some ⟨b, off, none⟩) L.length c, .int .i64 (L.length : Nat), .int .i64 (M : Nat), .func (.func 49) #[] #[.pointer (some ⟨w.heap.size + 1 + 1 + 1, 0, none⟩), .pointer (some ⟨w.heap.size + 1 + 1 + 1 + 1, 0, none⟩)], fkV ⟨f1, f2, f3, f4⟩, v, .agg (fkC ⟨f1, f2, f3, f4⟩), .slice (some ⟨b, off, none⟩) L.length c, .string (rootS Sha.shaS (Fk.aside ⟨f1, f2, f3, f4⟩ L)), x28, x29, undef, undef, undef, undef, undef, undef, undef, undef, undef, undef, undef, undef, undef, undef, undef], defers := [] } (V.setCell ⟨w.heap.size + 1, 0, none⟩ v') := fun V h v' ho hl x28 x29 => by
      have hset : ∀ (j : Nat) (o : Obj), j ≠ w.heap.size + 1 → V.heap[j]? = some o → (V.setCell ⟨w.heap.size + 1, 0, none⟩ v').heap[j]? = some o := fun j o hj ho => (heap_setCell_other V ⟨w.heap.size + 1, 0, none⟩ j v' hj).trans ho
      have hWV : ∀ (j : Nat) (o : Obj), j ≠ w.heap.size + 1 → some j ≠ v.ownBlock → W.heap[j]? = some o → (V.setCell ⟨w.heap.size + 1, 0, none⟩ v').heap[j]? = some o := fun j o h1 h2 ho => hset j o h1 ((h.2 j (Array.getElem?_eq_some_iff.1 ho).1 h2).trans ho)
      have hVs := h.1.size
      have hown : (V.setCell ⟨w.heap.size + 1, 0, none⟩ v').ownsRow (W4.heap.size + 7) 9 1 v' ((asides L (pre.map (·.1))).length + 1) (strV (asides L (pre.map (·.1))) ++ [.string (rootS Sha.shaS (Fk.aside ⟨f1, f2, f3, f4⟩ L))]) :=
        ho.kept (grownBy_setCell' V (w.heap.size + 1) v') (.inr (fun e => by have := (hl _ e).1; omega))
      have hbv : Boxed (V.setCell ⟨w.heap.size + 1, 0, none⟩ v') (w.heap.size + 1) 26 v' := (ap1 V h).set v'
      have hvB : some Bb ≠ v.ownBlock := fun e => by have := hlt _ e.symm; omega
      have hvs : ∀ j, j < W4.heap.size + 7 → some j ≠ v.ownBlock := fun j hj e => by have := (hvl _ e.symm).1; omega
      have hbn1 : Boxed (V.setCell ⟨w.heap.size + 1, 0, none⟩ v') (w.heap.size + 1 + 1) 3 (.int .i64 (nextOf 0 (pre.map (·.1)) : Nat)) := hWV _ _ (by omega) (hvs _ (by omega)) hbn
      have hb01 : Boxed (V.setCell ⟨w.heap.size + 1, 0, none⟩ v') w.heap.size 26 (.slice (some ⟨b, off, none⟩) L.length c) := hWV _ _ (by omega) (hvs _ (by omega)) hb0
      have hcb1 := hWV _ _ (by omega) hvB hcb
      have hbel1 : Below w.heap.size w (V.setCell ⟨w.heap.size + 1, 0, none⟩ v') := (hbel.trans (h.1.mono (by omega))).setCell (p := ⟨w.heap.size + 1, 0, none⟩) (by simp) v'
      have hkw : ∀ (j : Nat) (o : Obj), W4.heap.size ≤ j → W.heap[j]? = some o → o.isCells = false → (V.setCell ⟨w.heap.size + 1, 0, none⟩ v').heap[j]? = some o := fun j o hj ho hc => hWV j o (by omega) (fun e => by
        obtain ⟨cs, fz, hcs⟩ := Lib.ownsRow_kind hrow j e.symm
        rw [hcs] at ho; cases ho; cases hc) ho
      have hkt : ∀ (j : Nat) (o : Obj), (farG (fun j => j = w.heap.size + 1 + 1 + 1 + 1) (W4.heap.size + 2) 5 j ∨ U.heap.size ≤ j + 2) → U.heap[j]? = some o → o.isCells = true → (V.setCell ⟨w.heap.size + 1, 0, none⟩ v').heap[j]? = some o := fun j o hj ho hc => by
        have hjj : w.heap.size + 1 + 1 < j ∧ some j ≠ v.ownBlock := by
          rcases hj with (rfl | ⟨q1, q2⟩) | hj
          · exact ⟨by omega, hvs _ (by omega)⟩
          · exact ⟨by omega, hvs _ (by omega)⟩
          · exact ⟨by omega, fun e => by have := hlt _ e.symm; omega⟩
        exact hWV j o (by omega) hjj.2 (hkeep j o ho hc)
      have hkn : ∀ (j : Nat), (farG (fun j => j = w.heap.size + 1 + 1 + 1 + 1) (W4.heap.size + 2) 5 j ∨ U.heap.size ≤ j + 2) → j ≠ w.heap.size + 1 + 1 := fun j hj => by
        rcases hj with (rfl | ⟨q1, q2⟩) | hj <;> omega
      have hl1 : ∀ k, v'.ownBlock = some k → W4.heap.size + 7 ≤ k ∧ k < (V.setCell ⟨w.heap.size + 1, 0, none⟩ v').heap.size := fun k e => by have := hl k e; simpa using this
      have hs1 : W.heap.size ≤ (V.setCell ⟨w.heap.size + 1, 0, none⟩ v').heap.size := by simpa using hVs
      obtain ⟨V1, hV1⟩ : ∃ X, X = V.setCell ⟨w.heap.size + 1, 0, none⟩ v' := ⟨_, rfl⟩
      rw [← hV1] at hown hbv hbn1 hb01 hcb1 hbel1 hkw hkt hl1 hs1 ⊢
      clear hV1 hWV hset ho hl h
      have HALL := Lib.hid (And.intro hown (And.intro hbv (And.intro hb01 (And.intro hbel1 (And.intro hkw (And.intro hkt (And.intro hkn hl1)))))))
      clear hown hbv hb01 hbel1 hkw hkt hl1 hkn hvs hvB
      have g0 : V1.cell? ⟨Bb, 0, none⟩ = some (.int .i64 f1) := cell_of_row V1 _ 0 _ _ _ hcb1
      have g1 : V1.cell? ⟨Bb, 1, none⟩ = some (.int .i64 f2) := cell_of_row V1 _ 1 _ _ _ hcb1
      have g2 : V1.cell? ⟨Bb, 2, none⟩ = some (.int .i64 f3) := cell_of_row V1 _ 2 _ _ _ hcb1
      have g3 : V1.cell? ⟨Bb, 3, none⟩ = some (.bool f4) := cell_of_row V1 _ 3 _ _ _ hcb1
      have hnx := next_any ⟨f1, f2, f3, f4⟩ V1
      rw [show fkV ⟨f1, f2, f3, f4⟩ = .agg #[.int .i64 f1, .int .i64 f2, .int .i64 f3, .bool f4] by simp [fkV]] at hnx
      have HNX := Lib.hid hnx
      have HBN := Lib.hid hbn1
      clear hnx hcb1 hbn1
      refine hK1 _ _ ?_
      gi_wp2
      refine ⟨trivial, (CallsIn.inRound l (callsIn_wide.2 HNX.out)).mono ?_⟩
      rintro e V2 ⟨rfl, hb2⟩
      have hbn2 : Boxed V2 (w.heap.size + 1 + 1) 3 (.int .i64 (nextOf 0 (pre.map (·.1)) : Nat)) := (hb2.block _ (by omega)).trans HBN.out
      have q1 := hbn2.cell
      have q2 := hbn2.frozen
      clear g0 g1 g2 g3
      gi_wp2
      obtain ⟨hown, hbv, hb01, hbel1, hkw, hkt, hkn, hl1⟩ := HALL.out
      have hs2 := hb2.size
      have hput : ∀ (j : Nat) (o : Obj), j ≠ w.heap.size + 1 + 1 → V1.heap[j]? = some o → (V2.setCell ⟨w.heap.size + 1 + 1, 0, none⟩ (.int .i64 (Fk.next ⟨f1, f2, f3, f4⟩ : Nat))).heap[j]? = some o := fun j o hj ho =>
        (heap_setCell_other V2 ⟨w.heap.size + 1 + 1, 0, none⟩ j _ hj).trans ((hb2.block j (Array.getElem?_eq_some_iff.1 ho).1).trans ho)
      refine ⟨⟨by simp; omega, fun j o hj ho hc => hput j o (by omega) (hkw j o hj ho hc)⟩, ⟨by simp; omega, fun j o hj ho hc => hput j o (hkn j hj) (hkt j o hj ho hc)⟩, ⟨v', hput _ _ (by omega) hbv, ?_, fun k e => by have := (hl1 k e).2; simp; omega, by simp; omega⟩, ?_, hput _ _ (by omega) hb01, ?_⟩
      · rw [List.map_append]
        show World.ownsRow _ _ _ _ _ (asides L (pre.map (·.1) ++ [⟨f1, f2, f3, f4⟩])).length (strV (asides L (pre.map (·.1) ++ [⟨f1, f2, f3, f4⟩])))
        rw [asides_snoc, List.length_append]
        unfold strV at hown ⊢
        rw [List.map_append]
        have hown2 := StrOwn.below (L := asides L (pre.map (·.1)) ++ [rootS Sha.shaS (Fk.aside ⟨f1, f2, f3, f4⟩ L)]) (by unfold StrOwn strV; rw [List.length_append, List.map_append]; exact hown) hb2
        unfold StrOwn strV at hown2
        rw [List.length_append, List.map_append] at hown2
        exact hown2.kept (grownBy_setCell' V2 (w.heap.size + 1 + 1) _) (.inr (fun e => by have := (hl1 _ e).1; omega))
      · rw [List.map_append]
        show Boxed _ _ _ (.int .i64 (nextOf 0 (pre.map (·.1) ++ [⟨f1, f2, f3, f4⟩]) : Nat))
        rw [nextOf_snoc]
        exact hbn2.set _
      · exact (below_step hbel1 hb2).setCell (p := ⟨w.heap.size + 1 + 1, 0, none⟩) (by simp; omega) _
    refine wpAnyIn_ready (rs := [0, 1, 2]) (by kernel_rfl) (by simp) ?_
    refine BigFrame.allReadyIn_want rfl rfl (fun K hK => ?_) (BigFrame.allReadyIn_want rfl rfl (fun K hK => ?_) (BigFrame.allReadyIn_want rfl rfl (fun K hK => ?_) (AllReadyIn.nil)))
    · have q0 := k1 _ hbd
      go_simp
      refine hK _ _ ?_
      clear hK K q0
      refine wpAnyIn_ready (rs := [1, 2]) (by kernel_rfl) (by simp) ?_
      refine BigFrame.allReadyIn_want rfl rfl (fun K hK => ?_) (BigFrame.allReadyIn_want rfl rfl (fun K hK => ?_) (AllReadyIn.nil))
      · refine opIn_load_row 49 (.tmp 8) rfl Bb rfl 49 _ (0, 0) _ (kf _ hbd) Tryd.underlying49 rfl huf (hK _ _ ?_)
        clear hK K
        refine wpAnyIn_ready (rs := [2]) (by kernel_rfl) (by simp) ?_
        refine BigFrame.allReadyIn_want rfl rfl (fun K hK => ?_) (AllReadyIn.nil)
        have q0 := k0 _ hbd
        go_simp
        refine hK _ _ ?_
        clear hK K q0
        refine wpAnyIn_ready (rs := [3]) (by kernel_rfl) (by simp) ?_
        refine BigFrame.allReadyIn_want rfl rfl (fun K hK => ?_) (AllReadyIn.nil)
        go_simp
        refine ⟨trivial, (CallsIn.inRound l (callsIn_wide.2 (sib _ hbd))).mono ?_⟩
        rintro e V ⟨rfl, hV⟩
        have hbV := below_step hbd hV
        refine hK _ _ ?_
        clear hK K
        refine wpAnyIn_ready (rs := [4]) (by kernel_rfl) (by simp) ?_
        refine BigFrame.allReadyIn_want rfl rfl (fun K hK => ?_) (AllReadyIn.nil)
        go_simp
        refine hK _ _ ?_
        clear hK K
        have hbA : Below W.heap.size W (V.alloc (.cells #[.string (rootS Sha.shaS (Fk.aside ⟨f1, f2, f3, f4⟩ L))] 9)) := hbV.alloc hbV.size _
        refine wpAnyIn_ready (rs := [5]) (by kernel_rfl) (by simp) ?_
        refine BigFrame.allReadyIn_want rfl rfl (fun K hK => ?_) (AllReadyIn.nil)
        refine opIn_append_own (.tmp 24) (.tmp 28) 26 rfl (W4.heap.size + 7) 9 i0 (.string ⟨#[]⟩) 1 16 Tryd.underlying26 hi0 hz0 hz1 hz2 rfl (by decide) v _ _ rfl (kr _ hbA) ⟨V.heap.size, 0, none⟩ 1 1 [.string (rootS Sha.shaS (Fk.aside ⟨f1, f2, f3, f4⟩ L))] rfl rfl (cell_one_new _ _ _) (by simp [Value.oneCell']) hm1 hm2 (by have := hbA.size; omega) ?_
        intro v' w6 ho6 hg6
        have hb6 := app _ _ hbA hg6
        have hl6 := (ho6.lt)
        obtain ⟨g9, cap9, rfl⟩ := ownsRow_succ ho6
        refine hK _ _ ?_
        clear hK K
        refine wpAnyIn_ready (rs := [6]) (by kernel_rfl) (by simp) ?_
        refine BigFrame.allReadyIn_want rfl rfl (fun K hK => ?_) (AllReadyIn.nil)
        have q1 := (ap1 w6 hb6).cell
        have q2 := (ap1 w6 hb6).frozen
        go_simp
        refine hK _ _ ?_
        clear hK K q1 q2
        refine wpAnyIn_done (by kernel_rfl) ?_ _
        exact fin w6 hb6 _ ho6 hl6 _ _
      · have q0 := k0 _ hbd
        go_simp
        refine hK _ _ ?_
        clear hK K q0
        refine wpAnyIn_ready (rs := [1]) (by kernel_rfl) (by simp) ?_
        refine BigFrame.allReadyIn_want rfl rfl (fun K hK => ?_) (AllReadyIn.nil)
        refine opIn_load_row 49 (.tmp 8) rfl Bb rfl 49 _ (0, 0) _ (kf _ hbd) Tryd.underlying49 rfl huf (hK _ _ ?_)
        clear hK K
        refine wpAnyIn_ready (rs := [3]) (by kernel_rfl) (by simp) ?_
        refine BigFrame.allReadyIn_want rfl rfl (fun K hK => ?_) (AllReadyIn.nil)
        go_simp
        refine ⟨trivial, (CallsIn.inRound l (callsIn_wide.2 (sib _ hbd))).mono ?_⟩
        rintro e V ⟨rfl, hV⟩
        have hbV := below_step hbd hV
        refine hK _ _ ?_
        clear hK K
        refine wpAnyIn_ready (rs := [4]) (by kernel_rfl) (by simp) ?_
        refine BigFrame.allReadyIn_want rfl rfl (fun K hK => ?_) (AllReadyIn.nil)
        go_simp
        refine hK _ _ ?_
        clear hK K
        have hbA : Below W.heap.size W (V.alloc (.cells #[.string (rootS Sha.shaS (Fk.aside ⟨f1, f2, f3, f4⟩ L))] 9)) := hbV.alloc hbV.size _
        refine wpAnyIn_ready (rs := [5]) (by kernel_rfl) (by simp) ?_
        refine BigFrame.allReadyIn_want rfl rfl (fun K hK => ?_) (AllReadyIn.nil)
        refine opIn_append_own (.tmp 24) (.tmp 28) 26 rfl (W4.heap.size + 7) 9 i0 (.string ⟨#[]⟩) 1 16 Tryd.underlying26 hi0 hz0 hz1 hz2 rfl (by decide) v _ _ rfl (kr _ hbA) ⟨V.heap.size, 0, none⟩ 1 1 [.string (rootS Sha.shaS (Fk.aside ⟨f1, f2, f3, f4⟩ L))] rfl rfl (cell_one_new _ _ _) (by simp [Value.oneCell']) hm1 hm2 (by have := hbA.size; omega) ?_
        intro v' w6 ho6 hg6
        have hb6 := app _ _ hbA hg6
        have hl6 := (ho6.lt)
        obtain ⟨g9, cap9, rfl⟩ := ownsRow_succ ho6
        refine hK _ _ ?_
        clear hK K
        refine wpAnyIn_ready (rs := [6]) (by kernel_rfl) (by simp) ?_
        refine BigFrame.allReadyIn_want rfl rfl (fun K hK => ?_) (AllReadyIn.nil)
        have q1 := (ap1 w6 hb6).cell
        have q2 := (ap1 w6 hb6).frozen
        go_simp
        refine hK _ _ ?_
        clear hK K q1 q2
        refine wpAnyIn_done (by kernel_rfl) ?_ _
        exact fin w6 hb6 _ ho6 hl6 _ _
    · refine opIn_load_row 49 (.tmp 8) rfl Bb rfl 49 _ (0, 0) _ (kf _ hbd) Tryd.underlying49 rfl huf (hK _ _ ?_)
      clear hK K
      refine wpAnyIn_ready (rs := [0, 2]) (by kernel_rfl) (by simp) ?_
      refine BigFrame.allReadyIn_want rfl rfl (fun K hK => ?_) (BigFrame.allReadyIn_want rfl rfl (fun K hK => ?_) (AllReadyIn.nil))
      · have q0 := k1 _ hbd
        go_simp
        refine hK _ _ ?_
        clear hK K q0
        refine wpAnyIn_ready (rs := [2]) (by kernel_rfl) (by simp) ?_
        refine BigFrame.allReadyIn_want rfl rfl (fun K hK => ?_) (AllReadyIn.nil)
        have q0 := k0 _ hbd
        go_simp
        refine hK _ _ ?_
        clear hK K q0
        refine wpAnyIn_ready (rs := [3]) (by kernel_rfl) (by simp) ?_
        refine BigFrame.allReadyIn_want rfl rfl (fun K hK => ?_) (AllReadyIn.nil)
        go_simp
        refine ⟨trivial, (CallsIn.inRound l (callsIn_wide.2 (sib _ hbd))).mono ?_⟩
        rintro e V ⟨rfl, hV⟩
        have hbV := below_step hbd hV
        refine hK _ _ ?_
        clear hK K
        refine wpAnyIn_ready (rs := [4]) (by kernel_rfl) (by simp) ?_
        refine BigFrame.allReadyIn_want rfl rfl (fun K hK => ?_) (AllReadyIn.nil)
        go_simp
        refine hK _ _ ?_
        clear hK K
        have hbA : Below W.heap.size W (V.alloc (.cells #[.string (rootS Sha.shaS (Fk.aside ⟨f1, f2, f3, f4⟩ L))] 9)) := hbV.alloc hbV.size _
        refine wpAnyIn_ready (rs := [5]) (by kernel_rfl) (by simp) ?_
        refine BigFrame.allReadyIn_want rfl rfl (fun K hK => ?_) (AllReadyIn.nil)
        refine opIn_append_own (.tmp 24) (.tmp 28) 26 rfl (W4.heap.size + 7) 9 i0 (.string ⟨#[]⟩) 1 16 Tryd.underlying26 hi0 hz0 hz1 hz2 rfl (by decide) v _ _ rfl (kr _ hbA) ⟨V.heap.size, 0, none⟩ 1 1 [.string (rootS Sha.shaS (Fk.aside ⟨f1, f2, f3, f4⟩ L))] rfl rfl (cell_one_new _ _ _) (by simp [Value.oneCell']) hm1 hm2 (by have := hbA.size; omega) ?_
        intro v' w6 ho6 hg6
        have hb6 := app _ _ hbA hg6
        have hl6 := (ho6.lt)
        obtain ⟨g9, cap9, rfl⟩ := ownsRow_succ ho6
        refine hK _ _ ?_
        clear hK K
        refine wpAnyIn_ready (rs := [6]) (by kernel_rfl) (by simp) ?_
        refine BigFrame.allReadyIn_want rfl rfl (fun K hK => ?_) (AllReadyIn.nil)
        have q1 := (ap1 w6 hb6).cell
        have q2 := (ap1 w6 hb6).frozen
        go_simp
        refine hK _ _ ?_
        clear hK K q1 q2
        refine wpAnyIn_done (by kernel_rfl) ?_ _
        exact fin w6 hb6 _ ho6 hl6 _ _
      · have q0 := k0 _ hbd
        go_simp
        refine hK _ _ ?_
        clear hK K q0
        refine wpAnyIn_ready (rs := [0, 3]) (by kernel_rfl) (by simp) ?_
        refine BigFrame.allReadyIn_want rfl rfl (fun K hK => ?_) (BigFrame.allReadyIn_want rfl rfl (fun K hK => ?_) (AllReadyIn.nil))
        · have q0 := k1 _ hbd
          go_simp
          refine hK _ _ ?_
          clear hK K q0
          refine wpAnyIn_ready (rs := [3]) (by kernel_rfl) (by simp) ?_
          refine BigFrame.allReadyIn_want rfl rfl (fun K hK => ?_) (AllReadyIn.nil)
          go_simp
          refine ⟨trivial, (CallsIn.inRound l (callsIn_wide.2 (sib _ hbd))).mono ?_⟩
          rintro e V ⟨rfl, hV⟩
          have hbV := below_step hbd hV
          refine hK _ _ ?_
          clear hK K
          refine wpAnyIn_ready (rs := [4]) (by kernel_rfl) (by simp) ?_
          refine BigFrame.allReadyIn_want rfl rfl (fun K hK => ?_) (AllReadyIn.nil)
          go_simp
          refine hK _ _ ?_
          clear hK K
          have hbA : Below W.heap.size W (V.alloc (.cells #[.string (rootS Sha.shaS (Fk.aside ⟨f1, f2, f3, f4⟩ L))] 9)) := hbV.alloc hbV.size _
          refine wpAnyIn_ready (rs := [5]) (by kernel_rfl) (by simp) ?_
          refine BigFrame.allReadyIn_want rfl rfl (fun K hK => ?_) (AllReadyIn.nil)
          refine opIn_append_own (.tmp 24) (.tmp 28) 26 rfl (W4.heap.size + 7) 9 i0 (.string ⟨#[]⟩) 1 16 Tryd.underlying26 hi0 hz0 hz1 hz2 rfl (by decide) v _ _ rfl (kr _ hbA) ⟨V.heap.size, 0, none⟩ 1 1 [.string (rootS Sha.shaS (Fk.aside ⟨f1, f2, f3, f4⟩ L))] rfl rfl (cell_one_new _ _ _) (by simp [Value.oneCell']) hm1 hm2 (by have := hbA.size; omega) ?_
          intro v' w6 ho6 hg6
          have hb6 := app _ _ hbA hg6
          have hl6 := (ho6.lt)
          obtain ⟨g9, cap9, rfl⟩ := ownsRow_succ ho6
          refine hK _ _ ?_
          clear hK K
          refine wpAnyIn_ready (rs := [6]) (by kernel_rfl) (by simp) ?_
          refine BigFrame.allReadyIn_want rfl rfl (fun K hK => ?_) (AllReadyIn.nil)
          have q1 := (ap1 w6 hb6).cell
          have q2 := (ap1 w6 hb6).frozen
          go_simp
          refine hK _ _ ?_
          clear hK K q1 q2
          refine wpAnyIn_done (by kernel_rfl) ?_ _
          exact fin w6 hb6 _ ho6 hl6 _ _
        · go_simp
          refine ⟨trivial, (CallsIn.inRound l (callsIn_wide.2 (sib _ hbd))).mono ?_⟩
          rintro e V ⟨rfl, hV⟩
          have hbV := below_step hbd hV
          refine hK _ _ ?_
          clear hK K
          refine wpAnyIn_ready (rs := [0, 4]) (by kernel_rfl) (by simp) ?_
          refine BigFrame.allReadyIn_want rfl rfl (fun K hK => ?_) (BigFrame.allReadyIn_want rfl rfl (fun K hK => ?_) (AllReadyIn.nil))
          · have q0 := k1 _ hbV
            go_simp
            refine hK _ _ ?_
            clear hK K q0
            refine wpAnyIn_ready (rs := [4]) (by kernel_rfl) (by simp) ?_
            refine BigFrame.allReadyIn_want rfl rfl (fun K hK => ?_) (AllReadyIn.nil)
            go_simp
            refine hK _ _ ?_
            clear hK K
            have hbA : Below W.heap.size W (V.alloc (.cells #[.string (rootS Sha.shaS (Fk.aside ⟨f1, f2, f3, f4⟩ L))] 9)) := hbV.alloc hbV.size _
            refine wpAnyIn_ready (rs := [5]) (by kernel_rfl) (by simp) ?_
            refine BigFrame.allReadyIn_want rfl rfl (fun K hK => ?_) (AllReadyIn.nil)
            refine opIn_append_own (.tmp 24) (.tmp 28) 26 rfl (W4.heap.size + 7) 9 i0 (.string ⟨#[]⟩) 1 16 Tryd.underlying26 hi0 hz0 hz1 hz2 rfl (by decide) v _ _ rfl (kr _ hbA) ⟨V.heap.size, 0, none⟩ 1 1 [.string (rootS Sha.shaS (Fk.aside ⟨f1, f2, f3, f4⟩ L))] rfl rfl (cell_one_new _ _ _) (by simp [Value.oneCell']) hm1 hm2 (by have := hbA.size; omega) ?_
            intro v' w6 ho6 hg6
            have hb6 := app _ _ hbA hg6
            have hl6 := (ho6.lt)
            obtain ⟨g9, cap9, rfl⟩ := ownsRow_succ ho6
            refine hK _ _ ?_
            clear hK K
            refine wpAnyIn_ready (rs := [6]) (by kernel_rfl) (by simp) ?_
            refine BigFrame.allReadyIn_want rfl rfl (fun K hK => ?_) (AllReadyIn.nil)
            have q1 := (ap1 w6 hb6).cell
            have q2 := (ap1 w6 hb6).frozen
            go_simp
            refine hK _ _ ?_
            clear hK K q1 q2
            refine wpAnyIn_done (by kernel_rfl) ?_ _
            exact fin w6 hb6 _ ho6 hl6 _ _
          · go_simp
            refine hK _ _ ?_
            clear hK K
            have hbA : Below W.heap.size W (V.alloc (.cells #[.string (rootS Sha.shaS (Fk.aside ⟨f1, f2, f3, f4⟩ L))] 9)) := hbV.alloc hbV.size _
            refine wpAnyIn_ready (rs := [0]) (by kernel_rfl) (by simp) ?_
            refine BigFrame.allReadyIn_want rfl rfl (fun K hK => ?_) (AllReadyIn.nil)
            have q0 := k1 _ hbA
            go_simp
            refine hK _ _ ?_
            clear hK K q0
            refine wpAnyIn_ready (rs := [5]) (by kernel_rfl) (by simp) ?_
            refine BigFrame.allReadyIn_want rfl rfl (fun K hK => ?_) (AllReadyIn.nil)
            refine opIn_append_own (.tmp 24) (.tmp 28) 26 rfl (W4.heap.size + 7) 9 i0 (.string ⟨#[]⟩) 1 16 Tryd.underlying26 hi0 hz0 hz1 hz2 rfl (by decide) v _ _ rfl (kr _ hbA) ⟨V.heap.size, 0, none⟩ 1 1 [.string (rootS Sha.shaS (Fk.aside ⟨f1, f2, f3, f4⟩ L))] rfl rfl (cell_one_new _ _ _) (by simp [Value.oneCell']) hm1 hm2 (by have := hbA.size; omega) ?_
            intro v' w6 ho6 hg6
            have hb6 := app _ _ hbA hg6
            have hl6 := (ho6.lt)
            obtain ⟨g9, cap9, rfl⟩ := ownsRow_succ ho6
            refine hK _ _ ?_
            clear hK K
            refine wpAnyIn_ready (rs := [6]) (by kernel_rfl) (by simp) ?_
            refine BigFrame.allReadyIn_want rfl rfl (fun K hK => ?_) (AllReadyIn.nil)
            have q1 := (ap1 w6 hb6).cell
            have q2 := (ap1 w6 hb6).frozen
            go_simp
            refine hK _ _ ?_
            clear hK K q1 q2
            refine wpAnyIn_done (by kernel_rfl) ?_ _
            exact fin w6 hb6 _ ho6 hl6 _ _
    · have q0 := k0 _ hbd
      go_simp
      refine hK _ _ ?_
      clear hK K q0
      refine wpAnyIn_ready (rs := [0, 1]) (by kernel_rfl) (by simp) ?_
      refine BigFrame.allReadyIn_want rfl rfl (fun K hK => ?_) (BigFrame.allReadyIn_want rfl rfl (fun K hK => ?_) (AllReadyIn.nil))
      · have q0 := k1 _ hbd
        go_simp
        refine hK _ _ ?_
        clear hK K q0
        refine wpAnyIn_ready (rs := [1]) (by kernel_rfl) (by simp) ?_
        refine BigFrame.allReadyIn_want rfl rfl (fun K hK => ?_) (AllReadyIn.nil)
        refine opIn_load_row 49 (.tmp 8) rfl Bb rfl 49 _ (0, 0) _ (kf _ hbd) Tryd.underlying49 rfl huf (hK _ _ ?_)
        clear hK K
        refine wpAnyIn_ready (rs := [3]) (by kernel_rfl) (by simp) ?_
        refine BigFrame.allReadyIn_want rfl rfl (fun K hK => ?_) (AllReadyIn.nil)
        go_simp
        refine ⟨trivial, (CallsIn.inRound l (callsIn_wide.2 (sib _ hbd))).mono ?_⟩
        rintro e V ⟨rfl, hV⟩
        have hbV := below_step hbd hV
        refine hK _ _ ?_
        clear hK K
        refine wpAnyIn_ready (rs := [4]) (by kernel_rfl) (by simp) ?_
        refine BigFrame.allReadyIn_want rfl rfl (fun K hK => ?_) (AllReadyIn.nil)
        go_simp
        refine hK _ _ ?_
        clear hK K
        have hbA : Below W.heap.size W (V.alloc (.cells #[.string (rootS Sha.shaS (Fk.aside ⟨f1, f2, f3, f4⟩ L))] 9)) := hbV.alloc hbV.size _
        refine wpAnyIn_ready (rs := [5]) (by kernel_rfl) (by simp) ?_
        refine BigFrame.allReadyIn_want rfl rfl (fun K hK => ?_) (AllReadyIn.nil)
        refine opIn_append_own (.tmp 24) (.tmp 28) 26 rfl (W4.heap.size + 7) 9 i0 (.string ⟨#[]⟩) 1 16 Tryd.underlying26 hi0 hz0 hz1 hz2 rfl (by decide) v _ _ rfl (kr _ hbA) ⟨V.heap.size, 0, none⟩ 1 1 [.string (rootS Sha.shaS (Fk.aside ⟨f1, f2, f3, f4⟩ L))] rfl rfl (cell_one_new _ _ _) (by simp [Value.oneCell']) hm1 hm2 (by have := hbA.size; omega) ?_
        intro v' w6 ho6 hg6
        have hb6 := app _ _ hbA hg6
        have hl6 := (ho6.lt)
        obtain ⟨g9, cap9, rfl⟩ := ownsRow_succ ho6
        refine hK _ _ ?_
        clear hK K
        refine wpAnyIn_ready (rs := [6]) (by kernel_rfl) (by simp) ?_
        refine BigFrame.allReadyIn_want rfl rfl (fun K hK => ?_) (AllReadyIn.nil)
        have q1 := (ap1 w6 hb6).cell
        have q2 := (ap1 w6 hb6).frozen
        go_simp
        refine hK _ _ ?_
        clear hK K q1 q2
        refine wpAnyIn_done (by kernel_rfl) ?_ _
        exact fin w6 hb6 _ ho6 hl6 _ _
      · refine opIn_load_row 49 (.tmp 8) rfl Bb rfl 49 _ (0, 0) _ (kf _ hbd) Tryd.underlying49 rfl huf (hK _ _ ?_)
        clear hK K
        refine wpAnyIn_ready (rs := [0, 3]) (by kernel_rfl) (by simp) ?_
        refine BigFrame.allReadyIn_want rfl rfl (fun K hK => ?_) (BigFrame.allReadyIn_want rfl rfl (fun K hK => ?_) (AllReadyIn.nil))
        · have q0 := k1 _ hbd
          go_simp
          refine hK _ _ ?_
          clear hK K q0
          refine wpAnyIn_ready (rs := [3]) (by kernel_rfl) (by simp) ?_
          refine BigFrame.allReadyIn_want rfl rfl (fun K hK => ?_) (AllReadyIn.nil)
          go_simp
          refine ⟨trivial, (CallsIn.inRound l (callsIn_wide.2 (sib _ hbd))).mono ?_⟩
          rintro e V ⟨rfl, hV⟩
          have hbV := below_step hbd hV
          refine hK _ _ ?_
          clear hK K
          refine wpAnyIn_ready (rs := [4]) (by kernel_rfl) (by simp) ?_
          refine BigFrame.allReadyIn_want rfl rfl (fun K hK => ?_) (AllReadyIn.nil)
          go_simp
          refine hK _ _ ?_
          clear hK K
          have hbA : Below W.heap.size W (V.alloc (.cells #[.string (rootS Sha.shaS (Fk.aside ⟨f1, f2, f3, f4⟩ L))] 9)) := hbV.alloc hbV.size _
          refine wpAnyIn_ready (rs := [5]) (by kernel_rfl) (by simp) ?_
          refine BigFrame.allReadyIn_want rfl rfl (fun K hK => ?_) (AllReadyIn.nil)
          refine opIn_append_own (.tmp 24) (.tmp 28) 26 rfl (W4.heap.size + 7) 9 i0 (.string ⟨#[]⟩) 1 16 Tryd.underlying26 hi0 hz0 hz1 hz2 rfl (by decide) v _ _ rfl (kr _ hbA) ⟨V.heap.size, 0, none⟩ 1 1 [.string (rootS Sha.shaS (Fk.aside ⟨f1, f2, f3, f4⟩ L))] rfl rfl (cell_one_new _ _ _) (by simp [Value.oneCell']) hm1 hm2 (by have := hbA.size; omega) ?_
          intro v' w6 ho6 hg6
          have hb6 := app _ _ hbA hg6
          have hl6 := (ho6.lt)
          obtain ⟨g9, cap9, rfl⟩ := ownsRow_succ ho6
          refine hK _ _ ?_
          clear hK K
          refine wpAnyIn_ready (rs := [6]) (by kernel_rfl) (by simp) ?_
          refine BigFrame.allReadyIn_want rfl rfl (fun K hK => ?_) (AllReadyIn.nil)
          have q1 := (ap1 w6 hb6).cell
          have q2 := (ap1 w6 hb6).frozen
          go_simp
          refine hK _ _ ?_
          clear hK K q1 q2
          refine wpAnyIn_done (by kernel_rfl) ?_ _
          exact fin w6 hb6 _ ho6 hl6 _ _
        · go_simp
          refine ⟨trivial, (CallsIn.inRound l (callsIn_wide.2 (sib _ hbd))).mono ?_⟩
          rintro e V ⟨rfl, hV⟩
          have hbV := below_step hbd hV
          refine hK _ _ ?_
          clear hK K
          refine wpAnyIn_ready (rs := [0, 4]) (by kernel_rfl) (by simp) ?_
          refine BigFrame.allReadyIn_want rfl rfl (fun K hK => ?_) (BigFrame.allReadyIn_want rfl rfl (fun K hK => ?_) (AllReadyIn.nil))
          · have q0 := k1 _ hbV
            go_simp
            refine hK _ _ ?_
            clear hK K q0
            refine wpAnyIn_ready (rs := [4]) (by kernel_rfl) (by simp) ?_
            refine BigFrame.allReadyIn_want rfl rfl (fun K hK => ?_) (AllReadyIn.nil)
            go_simp
            refine hK _ _ ?_
            clear hK K
            have hbA : Below W.heap.size W (V.alloc (.cells #[.string (rootS Sha.shaS (Fk.aside ⟨f1, f2, f3, f4⟩ L))] 9)) := hbV.alloc hbV.size _
            refine wpAnyIn_ready (rs := [5]) (by kernel_rfl) (by simp) ?_
            refine BigFrame.allReadyIn_want rfl rfl (fun K hK => ?_) (AllReadyIn.nil)
            refine opIn_append_own (.tmp 24) (.tmp 28) 26 rfl (W4.heap.size + 7) 9 i0 (.string ⟨#[]⟩) 1 16 Tryd.underlying26 hi0 hz0 hz1 hz2 rfl (by decide) v _ _ rfl (kr _ hbA) ⟨V.heap.size, 0, none⟩ 1 1 [.string (rootS Sha.shaS (Fk.aside ⟨f1, f2, f3, f4⟩ L))] rfl rfl (cell_one_new _ _ _) (by simp [Value.oneCell']) hm1 hm2 (by have := hbA.size; omega) ?_
            intro v' w6 ho6 hg6
            have hb6 := app _ _ hbA hg6
            have hl6 := (ho6.lt)
            obtain ⟨g9, cap9, rfl⟩ := ownsRow_succ ho6
            refine hK _ _ ?_
            clear hK K
            refine wpAnyIn_ready (rs := [6]) (by kernel_rfl) (by simp) ?_
            refine BigFrame.allReadyIn_want rfl rfl (fun K hK => ?_) (AllReadyIn.nil)
            have q1 := (ap1 w6 hb6).cell
            have q2 := (ap1 w6 hb6).frozen
            go_simp
            refine hK _ _ ?_
            clear hK K q1 q2
            refine wpAnyIn_done (by kernel_rfl) ?_ _
            exact fin w6 hb6 _ ho6 hl6 _ _
          · go_simp
            refine hK _ _ ?_
            clear hK K
            have hbA : Below W.heap.size W (V.alloc (.cells #[.string (rootS Sha.shaS (Fk.aside ⟨f1, f2, f3, f4⟩ L))] 9)) := hbV.alloc hbV.size _
            refine wpAnyIn_ready (rs := [0]) (by kernel_rfl) (by simp) ?_
            refine BigFrame.allReadyIn_want rfl rfl (fun K hK => ?_) (AllReadyIn.nil)
            have q0 := k1 _ hbA
            go_simp
            refine hK _ _ ?_
            clear hK K q0
            refine wpAnyIn_ready (rs := [5]) (by kernel_rfl) (by simp) ?_
            refine BigFrame.allReadyIn_want rfl rfl (fun K hK => ?_) (AllReadyIn.nil)
            refine opIn_append_own (.tmp 24) (.tmp 28) 26 rfl (W4.heap.size + 7) 9 i0 (.string ⟨#[]⟩) 1 16 Tryd.underlying26 hi0 hz0 hz1 hz2 rfl (by decide) v _ _ rfl (kr _ hbA) ⟨V.heap.size, 0, none⟩ 1 1 [.string (rootS Sha.shaS (Fk.aside ⟨f1, f2, f3, f4⟩ L))] rfl rfl (cell_one_new _ _ _) (by simp [Value.oneCell']) hm1 hm2 (by have := hbA.size; omega) ?_
            intro v' w6 ho6 hg6
            have hb6 := app _ _ hbA hg6
            have hl6 := (ho6.lt)
            obtain ⟨g9, cap9, rfl⟩ := ownsRow_succ ho6
            refine hK _ _ ?_
            clear hK K
            refine wpAnyIn_ready (rs := [6]) (by kernel_rfl) (by simp) ?_
            refine BigFrame.allReadyIn_want rfl rfl (fun K hK => ?_) (AllReadyIn.nil)
            have q1 := (ap1 w6 hb6).cell
            have q2 := (ap1 w6 hb6).frozen
            go_simp
            refine hK _ _ ?_
            clear hK K q1 q2
            refine wpAnyIn_done (by kernel_rfl) ?_ _
            exact fin w6 hb6 _ ho6 hl6 _ _
  case done =>
    rintro D bnd xs W hD hbW hS ⟨⟨v, hv, hrow, hlt, hu4⟩, hbn, hb0, hbel⟩ hK
    rw [hS] at hrow hbn
    have hne := next_edge 64 0 L.length M (by omega) hM2 (by omega)
    have hext := ext_edge L M (by omega) hM2 (by omega)
    have hedl := edgeF_length 64 0 L.length M
    generalize edgeF 64 0 L.length M = fs at *
    have hnxM : nextOf 0 fs < M := hne.1
    have hfs : 0 < nextOf 0 fs → 1 ≤ fs.length := fun h => by
      cases fs with
      | nil => exact absurd h (Nat.lt_irrefl 0)
      | cons f r => simp
    clear hne
    generalize nextOf 0 fs = nx at *
    have hDW := (Array.getElem?_eq_some_iff.1 hK).1
    have hvl : ∀ k, v.ownBlock = some k → W4.heap.size + 7 ≤ k ∧ k < W.heap.size := hrow.lt
    have hvD : ∀ k, v.ownBlock = some k → k ≠ D := fun k e hk => by
      subst hk
      obtain ⟨cs, fz, hcs⟩ := Lib.ownsRow_kind hrow k e
      rw [hK] at hcs; cases hcs
    have hal : (asides L fs).length ≤ 64 := by unfold asides; rw [List.length_map]; exact hedl
    by_cases hnx : 0 < nx
    · rw [if_pos hnx] at hext
      have hnI : (0 : Int) < (nx : Int) := by omega
      have hnc := hbn.cell
      gi_wp2
      rename_i K2 hK2
      clear hnc
      obtain ⟨i0, hi0, hz0, hz1, hz2⟩ := info_parts info_string
      have hTW := HTA.out.1.below hbel
      have hAW := HTA.out.2.below hbel
      have hlc := hAW.1
      have hcm := hAW.2.1
      unfold maxLen at hcm
      have hbd : Below W.heap.size W W.drew := (Below.refl _ W).drew
      have k0 : ∀ V, Below W.heap.size W V → V.cell? ⟨w.heap.size, 0, none⟩ = some (.slice (some ⟨b, off, none⟩) L.length c) := fun V h => (h.cell (p := ⟨w.heap.size, 0, none⟩) hb0.lt).trans hb0.cell
      have k1 : ∀ V, Below W.heap.size W V → V.cell? ⟨w.heap.size + 1, 0, none⟩ = some v := fun V h => (h.cell (p := ⟨w.heap.size + 1, 0, none⟩) hv.lt).trans hv.cell
      have k2 : ∀ V, Below W.heap.size W V → V.cell? ⟨w.heap.size + 1 + 1, 0, none⟩ = some (.int .i64 (nx : Nat)) := fun V h => (h.cell (p := ⟨w.heap.size + 1 + 1, 0, none⟩) hbn.lt).trans hbn.cell
      have kr : ∀ V, Below W.heap.size W V → V.ownsRow (W4.heap.size + 7) 9 1 v (asides L fs).length (strV (asides L fs)) := fun V h => StrOwn.below hrow h
      have hpl : ((L.drop nx).take (M - nx)).length = M - nx := by simp; omega
      have rt : ∀ V, Below W.heap.size W V → Calls Tryd.prog 21 #[.slice (some ⟨b, off + nx, none⟩) (M - nx : Nat) (c - nx : Nat)] V (StrEnd (rootS Sha.shaS ((L.drop nx).take (M - nx))) V) := fun V h => by
        have := root_any L.length ((L.drop nx).take (M - nx)) (some ⟨b, off + nx, none⟩) (c - nx) V (by rw [hpl]; omega) (hTW.below h) ((hAW.below h).part nx M) (fun x hx' => hx x (List.mem_of_mem_drop (List.mem_of_mem_take hx')))
        rwa [hpl] at this
      have hm1 : (asides L fs).length + 1 ≤ maxLen := by unfold maxLen; omega
      have hm2 : ((asides L fs).length + 1) * 16 ≤ 140737488355328 := by omega
      have hW4W : W4.heap.size + 7 ≤ W.heap.size ∨ v.ownBlock = none := by
        cases hv9 : v.ownBlock with
        | none => exact .inr rfl
        | some k => have := hvl k hv9; exact .inl (by omega)
      have k3 : (nx : Int) ≤ (M : Int) := by omega
      have k4 : (M : Int) ≤ (c : Int) := by omega
      have c1 : ¬ c = nx := by omega
      have hs7 : W4.heap.size + 7 ≤ W.heap.size := by
        have hn1 := hfs hnx
        rw [show (asides L fs).length = (fs.length - 1) + 1 by unfold asides; rw [List.length_map]; omega] at hrow
        obtain ⟨g9, cap9, rfl⟩ := ownsRow_succ hrow
        have := hvl g9 rfl
        omega
      have app : ∀ A V, Below W.heap.size W A → A.grownBy V v.ownBlock → Below (W4.heap.size + 7) W V ∧ ∀ j, j < W.heap.size → some j ≠ v.ownBlock → V.heap[j]? = W.heap[j]? := fun A V h hg =>
        ⟨(h.mono hs7).grown hg (by have := h.size; omega) (fun k e => (hvl k e).1), fun j hj hne => (hg.block j (by have := h.size; omega) hne).trans (h.block j hj)⟩
      have ap1 : ∀ V : World, (Below (W4.heap.size + 7) W V ∧ ∀ j, j < W.heap.size → some j ≠ v.ownBlock → V.heap[j]? = W.heap[j]?) → Boxed V (w.heap.size + 1) 26 v := fun V h => (h.1.block _ (by omega)).trans hv
      obtain ⟨RP, hRP⟩ : ∃ RP : Exit → Act → World → Prop, RP = fun e (a : Act) V => e = .normal ∧ ∃ (V6 : World) (v' x40 x41 : Value), (Below (W4.heap.size + 7) W V6 ∧ ∀ j, j < W.heap.size → some j ≠ v.ownBlock → V6.heap[j]? = W.heap[j]?) ∧ V6.ownsRow (W4.heap.size + 7) 9 1 v' ((asides L fs).length + 1) (strV (asides L fs) ++ [.string (rootS Sha.shaS ((L.drop nx).take (M - nx)))]) ∧ a = { tmps := #[.slice (some ⟨b, off, none⟩) L.length c, .int .i64 (M : Nat), .pointer (some ⟨w.heap.size, 0, none⟩), undef, .slice none 0 0, .int .i64 0, .pointer (some ⟨w.heap.size + 1, 0, none⟩), .pointer (some ⟨w.heap.size + 1 + 1, 0, none⟩), undef, .int .i64 (M : Nat), .bool false, .bool false, .int .i64 (M : Nat), .slice (some ⟨b, off, none⟩) L.length c, .int .i64 (L.length : Nat), .bool false, .bool false, .int .i64 (M : Nat), .bool false, .slice (some ⟨b, off, none⟩) L.length c, .int .i64 (L.length : Nat), .int .i64 (M : Nat), .func (.func 49) #[] #[.pointer (some ⟨w.heap.size + 1 + 1 + 1, 0, none⟩), .pointer (some ⟨w.heap.size + 1 + 1 + 1 + 1, 0, none⟩)], undef, undef, undef, undef, undef, undef, undef, undef, undef, .int .i64 (nx : Nat), .bool true, v, .slice (some ⟨b, off, none⟩) L.length c, .int .i64 (nx : Nat), .int .i64 (M : Nat), .slice (some ⟨b, off + nx, none⟩) (M - nx) (c - nx), .string (rootS Sha.shaS ((L.drop nx).take (M - nx))), x40, x41, undef, undef, undef], defers := [{ target := .collected D, args := #[] }] } ∧ V = V6.setCell ⟨w.heap.size + 1, 0, none⟩ v' := ⟨_, rfl⟩
      refine wpIn_mono (Q := RP) ?_ ?_
      · have HX := Lib.hid hext
        clear hK2 hext hnxM hfs hvD hal HTA hTW hAW hS hbW hD hnI hpl hrow hbel hu4 hlt hK hx hM1 hM2
        refine wpIn_region_any (by kernel_rfl) ?_
        change wpAnyIn _ _ _ _ _ _ _ _ _ W.drew
        have fin : ∀ (V : World) (_ : Below (W4.heap.size + 7) W V ∧ ∀ j, j < W.heap.size → some j ≠ v.ownBlock → V.heap[j]? = W.heap[j]?) (v' : Value), V.ownsRow (W4.heap.size + 7) 9 1 v' ((asides L fs).length + 1) (strV (asides L fs) ++ [.string (rootS Sha.shaS ((L.drop nx).take (M - nx)))]) → ∀ x40 x41 : Value, RP .normal { tmps := #[.slice (some ⟨b, off, none⟩) L.length c, .int .i64 (M : Nat), .pointer (some ⟨w.heap.size, 0, none⟩), undef, .slice none 0 0, .int .i64 0, .pointer (some ⟨w.heap.size + 1, 0, none⟩), .pointer (some ⟨w.heap.size + 1 + 1, 0, none⟩), undef, .int .i64 (M : Nat), .bool false, .bool false, .int .i64 (M : Nat), .slice (some ⟨b, off, none⟩) L.length c, .int .i64 (L.length : Nat), .bool false, .bool false, .int .i64 (M : Nat), .bool false, .slice (some ⟨b, off, none⟩) L.length c, .int .i64 (L.length : Nat), .int .i64 (M : Nat), .func (.func 49) #[] #[.pointer (some ⟨w.heap.size + 1 + 1 + 1, 0, none⟩), .pointer (some ⟨w.heap.size + 1 + 1 + 1 + 1, 0, none⟩)], undef, undef, undef, undef, undef, undef, undef, undef, undef, .int .i64 (nx : Nat), .bool true, v, .slice (some ⟨b, off, none⟩) L.length c, .int .i64 (nx : Nat), .int .i64 (M : Nat), .slice (some ⟨b, off + nx, none⟩) (M - nx) (c - nx), .string (rootS Sha.shaS ((L.drop nx).take (M - nx))), x40, x41, undef, undef, undef], defers := [{ target := .collected D, args := #[] }] } (V.setCell ⟨w.heap.size + 1, 0, none⟩ v') := fun V h v' ho x40 x41 => by rw [hRP]; exact ⟨rfl, V, v', x40, x41, h, ho, rfl, rfl⟩
        have hRQ : ∀ (c : _) (a : Act) (w : World), RP (.panic c) a w → False := fun c a w h => by rw [hRP] at h; cases h.1
        clear hRP hs4
        refine wpAnyIn_take (i := 3) (v := .int .i64 (M : Int)) rfl rfl (by kernel_rfl) (by kernel_rfl) (by kernel_rfl) (fun _ _ _ h => (hRQ _ _ _ h).elim) ⟨Or.inl ⟨by rfl, fun w => by go_simp⟩, fun _ => rfl⟩ ?_
        refine wpAnyIn_ready (rs := [0, 1, 2]) (by kernel_rfl) (by simp) ?_
        refine BigFrame.allReadyIn_want rfl rfl (fun K hK => ?_) (BigFrame.allReadyIn_want rfl rfl (fun K hK => ?_) (BigFrame.allReadyIn_want rfl rfl (fun K hK => ?_) (AllReadyIn.nil)))
        · have q0 := k1 _ hbd
          go_simp
          refine hK _ _ ?_
          clear hK K q0
          refine wpAnyIn_ready (rs := [1, 2]) (by kernel_rfl) (by simp) ?_
          refine BigFrame.allReadyIn_want rfl rfl (fun K hK => ?_) (BigFrame.allReadyIn_want rfl rfl (fun K hK => ?_) (AllReadyIn.nil))
          · have q0 := k0 _ hbd
            go_simp
            refine hK _ _ ?_
            clear hK K q0
            refine wpAnyIn_ready (rs := [2]) (by kernel_rfl) (by simp) ?_
            refine BigFrame.allReadyIn_want rfl rfl (fun K hK => ?_) (AllReadyIn.nil)
            have q0 := k2 _ hbd
            go_simp
            refine hK _ _ ?_
            clear hK K q0
            refine wpAnyIn_ready (rs := [4]) (by kernel_rfl) (by simp) ?_
            refine BigFrame.allReadyIn_want rfl rfl (fun K hK => ?_) (AllReadyIn.nil)
            go_simp
            refine hK _ _ ?_
            clear hK K
            refine wpAnyIn_ready (rs := [5]) (by kernel_rfl) (by simp) ?_
            refine BigFrame.allReadyIn_want rfl rfl (fun K hK => ?_) (AllReadyIn.nil)
            go_simp
            refine ⟨trivial, (callsIn_wide.2 (rt _ hbd)).mono ?_⟩
            rintro e V ⟨rfl, hV⟩
            have hbV := below_step hbd hV
            refine hK _ _ ?_
            clear hK K
            refine wpAnyIn_ready (rs := [6]) (by kernel_rfl) (by simp) ?_
            refine BigFrame.allReadyIn_want rfl rfl (fun K hK => ?_) (AllReadyIn.nil)
            go_simp
            refine hK _ _ ?_
            clear hK K
            have hbA : Below W.heap.size W (V.alloc (.cells #[.string (rootS Sha.shaS ((L.drop nx).take (M - nx)))] 9)) := hbV.alloc hbV.size _
            refine wpAnyIn_ready (rs := [7]) (by kernel_rfl) (by simp) ?_
            refine BigFrame.allReadyIn_want rfl rfl (fun K hK => ?_) (AllReadyIn.nil)
            refine opIn_append_own (.tmp 34) (.tmp 40) 26 rfl (W4.heap.size + 7) 9 i0 (.string ⟨#[]⟩) 1 16 Tryd.underlying26 hi0 hz0 hz1 hz2 rfl (by decide) v _ _ rfl (kr _ hbA) ⟨V.heap.size, 0, none⟩ 1 1 [.string (rootS Sha.shaS ((L.drop nx).take (M - nx)))] rfl rfl (cell_one_new _ _ _) (by simp [Value.oneCell']) hm1 hm2 (by have := hbA.size; omega) ?_
            intro v' w6 ho6 hg6
            have hb6 := app _ _ hbA hg6
            obtain ⟨g9, cap9, rfl⟩ := ownsRow_succ ho6
            refine hK _ _ ?_
            clear hK K
            refine wpAnyIn_ready (rs := [8]) (by kernel_rfl) (by simp) ?_
            refine BigFrame.allReadyIn_want rfl rfl (fun K hK => ?_) (AllReadyIn.nil)
            have q1 := (ap1 w6 hb6).cell
            have q2 := (ap1 w6 hb6).frozen
            go_simp
            refine hK _ _ ?_
            clear hK K q1 q2
            refine wpAnyIn_done (by kernel_rfl) ?_ _
            exact fin w6 hb6 _ ho6 _ _
          · have q0 := k2 _ hbd
            go_simp
            refine hK _ _ ?_
            clear hK K q0
            refine wpAnyIn_ready (rs := [1]) (by kernel_rfl) (by simp) ?_
            refine BigFrame.allReadyIn_want rfl rfl (fun K hK => ?_) (AllReadyIn.nil)
            have q0 := k0 _ hbd
            go_simp
            refine hK _ _ ?_
            clear hK K q0
            refine wpAnyIn_ready (rs := [4]) (by kernel_rfl) (by simp) ?_
            refine BigFrame.allReadyIn_want rfl rfl (fun K hK => ?_) (AllReadyIn.nil)
            go_simp
            refine hK _ _ ?_
            clear hK K
            refine wpAnyIn_ready (rs := [5]) (by kernel_rfl) (by simp) ?_
            refine BigFrame.allReadyIn_want rfl rfl (fun K hK => ?_) (AllReadyIn.nil)
            go_simp
            refine ⟨trivial, (callsIn_wide.2 (rt _ hbd)).mono ?_⟩
            rintro e V ⟨rfl, hV⟩
            have hbV := below_step hbd hV
            refine hK _ _ ?_
            clear hK K
            refine wpAnyIn_ready (rs := [6]) (by kernel_rfl) (by simp) ?_
            refine BigFrame.allReadyIn_want rfl rfl (fun K hK => ?_) (AllReadyIn.nil)
            go_simp
            refine hK _ _ ?_
            clear hK K
            have hbA : Below W.heap.size W (V.alloc (.cells #[.string (rootS Sha.shaS ((L.drop nx).take (M - nx)))] 9)) := hbV.alloc hbV.size _
            refine wpAnyIn_ready (rs := [7]) (by kernel_rfl) (by simp) ?_
            refine BigFrame.allReadyIn_want rfl rfl (fun K hK => ?_) (AllReadyIn.nil)
            refine opIn_append_own (.tmp 34) (.tmp 40) 26 rfl (W4.heap.size + 7) 9 i0 (.string ⟨#[]⟩) 1 16 Tryd.underlying26 hi0 hz0 hz1 hz2 rfl (by decide) v _ _ rfl (kr _ hbA) ⟨V.heap.size, 0, none⟩ 1 1 [.string (rootS Sha.shaS ((L.drop nx).take (M - nx)))] rfl rfl (cell_one_new _ _ _) (by simp [Value.oneCell']) hm1 hm2 (by have := hbA.size; omega) ?_
            intro v' w6 ho6 hg6
            have hb6 := app _ _ hbA hg6
            obtain ⟨g9, cap9, rfl⟩ := ownsRow_succ ho6
            refine hK _ _ ?_
            clear hK K
            refine wpAnyIn_ready (rs := [8]) (by kernel_rfl) (by simp) ?_
            refine BigFrame.allReadyIn_want rfl rfl (fun K hK => ?_) (AllReadyIn.nil)
            have q1 := (ap1 w6 hb6).cell
            have q2 := (ap1 w6 hb6).frozen
            go_simp
            refine hK _ _ ?_
            clear hK K q1 q2
            refine wpAnyIn_done (by kernel_rfl) ?_ _
            exact fin w6 hb6 _ ho6 _ _
        · have q0 := k0 _ hbd
          go_simp
          refine hK _ _ ?_
          clear hK K q0
          refine wpAnyIn_ready (rs := [0, 2]) (by kernel_rfl) (by simp) ?_
          refine BigFrame.allReadyIn_want rfl rfl (fun K hK => ?_) (BigFrame.allReadyIn_want rfl rfl (fun K hK => ?_) (AllReadyIn.nil))
          · have q0 := k1 _ hbd
            go_simp
            refine hK _ _ ?_
            clear hK K q0
            refine wpAnyIn_ready (rs := [2]) (by kernel_rfl) (by simp) ?_
            refine BigFrame.allReadyIn_want rfl rfl (fun K hK => ?_) (AllReadyIn.nil)
            have q0 := k2 _ hbd
            go_simp
            refine hK _ _ ?_
            clear hK K q0
            refine wpAnyIn_ready (rs := [4]) (by kernel_rfl) (by simp) ?_
            refine BigFrame.allReadyIn_want rfl rfl (fun K hK => ?_) (AllReadyIn.nil)
            go_simp
            refine hK _ _ ?_
            clear hK K
            refine wpAnyIn_ready (rs := [5]) (by kernel_rfl) (by simp) ?_
            refine BigFrame.allReadyIn_want rfl rfl (fun K hK => ?_) (AllReadyIn.nil)
            go_simp
            refine ⟨trivial, (callsIn_wide.2 (rt _ hbd)).mono ?_⟩
            rintro e V ⟨rfl, hV⟩
            have hbV := below_step hbd hV
            refine hK _ _ ?_
            clear hK K
            refine wpAnyIn_ready (rs := [6]) (by kernel_rfl) (by simp) ?_
            refine BigFrame.allReadyIn_want rfl rfl (fun K hK => ?_) (AllReadyIn.nil)
            go_simp
            refine hK _ _ ?_
            clear hK K
            have hbA : Below W.heap.size W (V.alloc (.cells #[.string (rootS Sha.shaS ((L.drop nx).take (M - nx)))] 9)) := hbV.alloc hbV.size _
            refine wpAnyIn_ready (rs := [7]) (by kernel_rfl) (by simp) ?_
            refine BigFrame.allReadyIn_want rfl rfl (fun K hK => ?_) (AllReadyIn.nil)
            refine opIn_append_own (.tmp 34) (.tmp 40) 26 rfl (W4.heap.size + 7) 9 i0 (.string ⟨#[]⟩) 1 16 Tryd.underlying26 hi0 hz0 hz1 hz2 rfl (by decide) v _ _ rfl (kr _ hbA) ⟨V.heap.size, 0, none⟩ 1 1 [.string (rootS Sha.shaS ((L.drop nx).take (M - nx)))] rfl rfl (cell_one_new _ _ _) (by simp [Value.oneCell']) hm1 hm2 (by have := hbA.size; omega) ?_
            intro v' w6 ho6 hg6
            have hb6 := app _ _ hbA hg6
            obtain ⟨g9, cap9, rfl⟩ := ownsRow_succ ho6
            refine hK _ _ ?_
            clear hK K
            refine wpAnyIn_ready (rs := [8]) (by kernel_rfl) (by simp) ?_
            refine BigFrame.allReadyIn_want rfl rfl (fun K hK => ?_) (AllReadyIn.nil)
            have q1 := (ap1 w6 hb6).cell
            have q2 := (ap1 w6 hb6).frozen
            go_simp
            refine hK _ _ ?_
            clear hK K q1 q2
            refine wpAnyIn_done (by kernel_rfl) ?_ _
            exact fin w6 hb6 _ ho6 _ _
          · have q0 := k2 _ hbd
            go_simp
            refine hK _ _ ?_
            clear hK K q0
            refine wpAnyIn_ready (rs := [0, 4]) (by kernel_rfl) (by simp) ?_
            refine BigFrame.allReadyIn_want rfl rfl (fun K hK => ?_) (BigFrame.allReadyIn_want rfl rfl (fun K hK => ?_) (AllReadyIn.nil))
            · have q0 := k1 _ hbd
              go_simp
              refine hK _ _ ?_
              clear hK K q0
              refine wpAnyIn_ready (rs := [4]) (by kernel_rfl) (by simp) ?_
              refine BigFrame.allReadyIn_want rfl rfl (fun K hK => ?_) (AllReadyIn.nil)
              go_simp
              refine hK _ _ ?_
              clear hK K
              refine wpAnyIn_ready (rs := [5]) (by kernel_rfl) (by simp) ?_
              refine BigFrame.allReadyIn_want rfl rfl (fun K hK => ?_) (AllReadyIn.nil)
              go_simp
              refine ⟨trivial, (callsIn_wide.2 (rt _ hbd)).mono ?_⟩
              rintro e V ⟨rfl, hV⟩
              have hbV := below_step hbd hV
              refine hK _ _ ?_
              clear hK K
              refine wpAnyIn_ready (rs := [6]) (by kernel_rfl) (by simp) ?_
              refine BigFrame.allReadyIn_want rfl rfl (fun K hK => ?_) (AllReadyIn.nil)
              go_simp
              refine hK _ _ ?_
              clear hK K
              have hbA : Below W.heap.size W (V.alloc (.cells #[.string (rootS Sha.shaS ((L.drop nx).take (M - nx)))] 9)) := hbV.alloc hbV.size _
              refine wpAnyIn_ready (rs := [7]) (by kernel_rfl) (by simp) ?_
              refine BigFrame.allReadyIn_want rfl rfl (fun K hK => ?_) (AllReadyIn.nil)
              refine opIn_append_own (.tmp 34) (.tmp 40) 26 rfl (W4.heap.size + 7) 9 i0 (.string ⟨#[]⟩) 1 16 Tryd.underlying26 hi0 hz0 hz1 hz2 rfl (by decide) v _ _ rfl (kr _ hbA) ⟨V.heap.size, 0, none⟩ 1 1 [.string (rootS Sha.shaS ((L.drop nx).take (M - nx)))] rfl rfl (cell_one_new _ _ _) (by simp [Value.oneCell']) hm1 hm2 (by have := hbA.size; omega) ?_
              intro v' w6 ho6 hg6
              have hb6 := app _ _ hbA hg6
              obtain ⟨g9, cap9, rfl⟩ := ownsRow_succ ho6
              refine hK _ _ ?_
              clear hK K
              refine wpAnyIn_ready (rs := [8]) (by kernel_rfl) (by simp) ?_
              refine BigFrame.allReadyIn_want rfl rfl (fun K hK => ?_) (AllReadyIn.nil)
              have q1 := (ap1 w6 hb6).cell
              have q2 := (ap1 w6 hb6).frozen
              go_simp
              refine hK _ _ ?_
              clear hK K q1 q2
              refine wpAnyIn_done (by kernel_rfl) ?_ _
              exact fin w6 hb6 _ ho6 _ _
            · go_simp
              refine hK _ _ ?_
              clear hK K
              refine wpAnyIn_ready (rs := [0, 5]) (by kernel_rfl) (by simp) ?_
              refine BigFrame.allReadyIn_want rfl rfl (fun K hK => ?_) (BigFrame.allReadyIn_want rfl rfl (fun K hK => ?_) (AllReadyIn.nil))
              · have q0 := k1 _ hbd
                go_simp
                refine hK _ _ ?_
                clear hK K q0
                refine wpAnyIn_ready (rs := [5]) (by kernel_rfl) (by simp) ?_
                refine BigFrame.allReadyIn_want rfl rfl (fun K hK => ?_) (AllReadyIn.nil)
                go_simp
                refine ⟨trivial, (callsIn_wide.2 (rt _ hbd)).mono ?_⟩
                rintro e V ⟨rfl, hV⟩
                have hbV := below_step hbd hV
                refine hK _ _ ?_
                clear hK K
                refine wpAnyIn_ready (rs := [6]) (by kernel_rfl) (by simp) ?_
                refine BigFrame.allReadyIn_want rfl rfl (fun K hK => ?_) (AllReadyIn.nil)
                go_simp
                refine hK _ _ ?_
                clear hK K
                have hbA : Below W.heap.size W (V.alloc (.cells #[.string (rootS Sha.shaS ((L.drop nx).take (M - nx)))] 9)) := hbV.alloc hbV.size _
                refine wpAnyIn_ready (rs := [7]) (by kernel_rfl) (by simp) ?_
                refine BigFrame.allReadyIn_want rfl rfl (fun K hK => ?_) (AllReadyIn.nil)
                refine opIn_append_own (.tmp 34) (.tmp 40) 26 rfl (W4.heap.size + 7) 9 i0 (.string ⟨#[]⟩) 1 16 Tryd.underlying26 hi0 hz0 hz1 hz2 rfl (by decide) v _ _ rfl (kr _ hbA) ⟨V.heap.size, 0, none⟩ 1 1 [.string (rootS Sha.shaS ((L.drop nx).take (M - nx)))] rfl rfl (cell_one_new _ _ _) (by simp [Value.oneCell']) hm1 hm2 (by have := hbA.size; omega) ?_
                intro v' w6 ho6 hg6
                have hb6 := app _ _ hbA hg6
                obtain ⟨g9, cap9, rfl⟩ := ownsRow_succ ho6
                refine hK _ _ ?_
                clear hK K
                refine wpAnyIn_ready (rs := [8]) (by kernel_rfl) (by simp) ?_
                refine BigFrame.allReadyIn_want rfl rfl (fun K hK => ?_) (AllReadyIn.nil)
                have q1 := (ap1 w6 hb6).cell
                have q2 := (ap1 w6 hb6).frozen
                go_simp
                refine hK _ _ ?_
                clear hK K q1 q2
                refine wpAnyIn_done (by kernel_rfl) ?_ _
                exact fin w6 hb6 _ ho6 _ _
              · go_simp
                refine ⟨trivial, (callsIn_wide.2 (rt _ hbd)).mono ?_⟩
                rintro e V ⟨rfl, hV⟩
                have hbV := below_step hbd hV
                refine hK _ _ ?_
                clear hK K
                refine wpAnyIn_ready (rs := [0, 6]) (by kernel_rfl) (by simp) ?_
                refine BigFrame.allReadyIn_want rfl rfl (fun K hK => ?_) (BigFrame.allReadyIn_want rfl rfl (fun K hK => ?_) (AllReadyIn.nil))
                · have q0 := k1 _ hbV
                  go_simp
                  refine hK _ _ ?_
                  clear hK K q0
                  refine wpAnyIn_ready (rs := [6]) (by kernel_rfl) (by simp) ?_
                  refine BigFrame.allReadyIn_want rfl rfl (fun K hK => ?_) (AllReadyIn.nil)
                  go_simp
                  refine hK _ _ ?_
                  clear hK K
                  have hbA : Below W.heap.size W (V.alloc (.cells #[.string (rootS Sha.shaS ((L.drop nx).take (M - nx)))] 9)) := hbV.alloc hbV.size _
                  refine wpAnyIn_ready (rs := [7]) (by kernel_rfl) (by simp) ?_
                  refine BigFrame.allReadyIn_want rfl rfl (fun K hK => ?_) (AllReadyIn.nil)
                  refine opIn_append_own (.tmp 34) (.tmp 40) 26 rfl (W4.heap.size + 7) 9 i0 (.string ⟨#[]⟩) 1 16 Tryd.underlying26 hi0 hz0 hz1 hz2 rfl (by decide) v _ _ rfl (kr _ hbA) ⟨V.heap.size, 0, none⟩ 1 1 [.string (rootS Sha.shaS ((L.drop nx).take (M - nx)))] rfl rfl (cell_one_new _ _ _) (by simp [Value.oneCell']) hm1 hm2 (by have := hbA.size; omega) ?_
                  intro v' w6 ho6 hg6
                  have hb6 := app _ _ hbA hg6
                  obtain ⟨g9, cap9, rfl⟩ := ownsRow_succ ho6
                  refine hK _ _ ?_
                  clear hK K
                  refine wpAnyIn_ready (rs := [8]) (by kernel_rfl) (by simp) ?_
                  refine BigFrame.allReadyIn_want rfl rfl (fun K hK => ?_) (AllReadyIn.nil)
                  have q1 := (ap1 w6 hb6).cell
                  have q2 := (ap1 w6 hb6).frozen
                  go_simp
                  refine hK _ _ ?_
                  clear hK K q1 q2
                  refine wpAnyIn_done (by kernel_rfl) ?_ _
                  exact fin w6 hb6 _ ho6 _ _
                · go_simp
                  refine hK _ _ ?_
                  clear hK K
                  have hbA : Below W.heap.size W (V.alloc (.cells #[.string (rootS Sha.shaS ((L.drop nx).take (M - nx)))] 9)) := hbV.alloc hbV.size _
                  refine wpAnyIn_ready (rs := [0]) (by kernel_rfl) (by simp) ?_
                  refine BigFrame.allReadyIn_want rfl rfl (fun K hK => ?_) (AllReadyIn.nil)
                  have q0 := k1 _ hbA
                  go_simp
                  refine hK _ _ ?_
                  clear hK K q0
                  refine wpAnyIn_ready (rs := [7]) (by kernel_rfl) (by simp) ?_
                  refine BigFrame.allReadyIn_want rfl rfl (fun K hK => ?_) (AllReadyIn.nil)
                  refine opIn_append_own (.tmp 34) (.tmp 40) 26 rfl (W4.heap.size + 7) 9 i0 (.string ⟨#[]⟩) 1 16 Tryd.underlying26 hi0 hz0 hz1 hz2 rfl (by decide) v _ _ rfl (kr _ hbA) ⟨V.heap.size, 0, none⟩ 1 1 [.string (rootS Sha.shaS ((L.drop nx).take (M - nx)))] rfl rfl (cell_one_new _ _ _) (by simp [Value.oneCell']) hm1 hm2 (by have := hbA.size; omega) ?_
                  intro v' w6 ho6 hg6
                  have hb6 := app _ _ hbA hg6
                  obtain ⟨g9, cap9, rfl⟩ := ownsRow_succ ho6
                  refine hK _ _ ?_
                  clear hK K
                  refine wpAnyIn_ready (rs := [8]) (by kernel_rfl) (by simp) ?_
                  refine BigFrame.allReadyIn_want rfl rfl (fun K hK => ?_) (AllReadyIn.nil)
                  have q1 := (ap1 w6 hb6).cell
                  have q2 := (ap1 w6 hb6).frozen
                  go_simp
                  refine hK _ _ ?_
                  clear hK K q1 q2
                  refine wpAnyIn_done (by kernel_rfl) ?_ _
                  exact fin w6 hb6 _ ho6 _ _
        · have q0 := k2 _ hbd
          go_simp
          refine hK _ _ ?_
          clear hK K q0
          refine wpAnyIn_ready (rs := [0, 1]) (by kernel_rfl) (by simp) ?_
          refine BigFrame.allReadyIn_want rfl rfl (fun K hK => ?_) (BigFrame.allReadyIn_want rfl rfl (fun K hK => ?_) (AllReadyIn.nil))
          · have q0 := k1 _ hbd
            go_simp
            refine hK _ _ ?_
            clear hK K q0
            refine wpAnyIn_ready (rs := [1]) (by kernel_rfl) (by simp) ?_
            refine BigFrame.allReadyIn_want rfl rfl (fun K hK => ?_) (AllReadyIn.nil)
            have q0 := k0 _ hbd
            go_simp
            refine hK _ _ ?_
            clear hK K q0
            refine wpAnyIn_ready (rs := [4]) (by kernel_rfl) (by simp) ?_
            refine BigFrame.allReadyIn_want rfl rfl (fun K hK => ?_) (AllReadyIn.nil)
            go_simp
            refine hK _ _ ?_
            clear hK K
            refine wpAnyIn_ready (rs := [5]) (by kernel_rfl) (by simp) ?_
            refine BigFrame.allReadyIn_want rfl rfl (fun K hK => ?_) (AllReadyIn.nil)
            go_simp
            refine ⟨trivial, (callsIn_wide.2 (rt _ hbd)).mono ?_⟩
            rintro e V ⟨rfl, hV⟩
            have hbV := below_step hbd hV
            refine hK _ _ ?_
            clear hK K
            refine wpAnyIn_ready (rs := [6]) (by kernel_rfl) (by simp) ?_
            refine BigFrame.allReadyIn_want rfl rfl (fun K hK => ?_) (AllReadyIn.nil)
            go_simp
            refine hK _ _ ?_
            clear hK K
            have hbA : Below W.heap.size W (V.alloc (.cells #[.string (rootS Sha.shaS ((L.drop nx).take (M - nx)))] 9)) := hbV.alloc hbV.size _
            refine wpAnyIn_ready (rs := [7]) (by kernel_rfl) (by simp) ?_
            refine BigFrame.allReadyIn_want rfl rfl (fun K hK => ?_) (AllReadyIn.nil)
            refine opIn_append_own (.tmp 34) (.tmp 40) 26 rfl (W4.heap.size + 7) 9 i0 (.string ⟨#[]⟩) 1 16 Tryd.underlying26 hi0 hz0 hz1 hz2 rfl (by decide) v _ _ rfl (kr _ hbA) ⟨V.heap.size, 0, none⟩ 1 1 [.string (rootS Sha.shaS ((L.drop nx).take (M - nx)))] rfl rfl (cell_one_new _ _ _) (by simp [Value.oneCell']) hm1 hm2 (by have := hbA.size; omega) ?_
            intro v' w6 ho6 hg6
            have hb6 := app _ _ hbA hg6
            obtain ⟨g9, cap9, rfl⟩ := ownsRow_succ ho6
            refine hK _ _ ?_
            clear hK K
            refine wpAnyIn_ready (rs := [8]) (by kernel_rfl) (by simp) ?_
            refine BigFrame.allReadyIn_want rfl rfl (fun K hK => ?_) (AllReadyIn.nil)
            have q1 := (ap1 w6 hb6).cell
            have q2 := (ap1 w6 hb6).frozen
            go_simp
            refine hK _ _ ?_
            clear hK K q1 q2
            refine wpAnyIn_done (by kernel_rfl) ?_ _
            exact fin w6 hb6 _ ho6 _ _
          · have q0 := k0 _ hbd
            go_simp
            refine hK _ _ ?_
            clear hK K q0
            refine wpAnyIn_ready (rs := [0, 4]) (by kernel_rfl) (by simp) ?_
            refine BigFrame.allReadyIn_want rfl rfl (fun K hK => ?_) (BigFrame.allReadyIn_want rfl rfl (fun K hK => ?_) (AllReadyIn.nil))
            · have q0 := k1 _ hbd
              go_simp
              refine hK _ _ ?_
              clear hK K q0
              refine wpAnyIn_ready (rs := [4]) (by kernel_rfl) (by simp) ?_
              refine BigFrame.allReadyIn_want rfl rfl (fun K hK => ?_) (AllReadyIn.nil)
              go_simp
              refine hK _ _ ?_
              clear hK K
              refine wpAnyIn_ready (rs := [5]) (by kernel_rfl) (by simp) ?_
              refine BigFrame.allReadyIn_want rfl rfl (fun K hK => ?_) (AllReadyIn.nil)
              go_simp
              refine ⟨trivial, (callsIn_wide.2 (rt _ hbd)).mono ?_⟩
              rintro e V ⟨rfl, hV⟩
              have hbV := below_step hbd hV
              refine hK _ _ ?_
              clear hK K
              refine wpAnyIn_ready (rs := [6]) (by kernel_rfl) (by simp) ?_
              refine BigFrame.allReadyIn_want rfl rfl (fun K hK => ?_) (AllReadyIn.nil)
              go_simp
              refine hK _ _ ?_
              clear hK K
              have hbA : Below W.heap.size W (V.alloc (.cells #[.string (rootS Sha.shaS ((L.drop nx).take (M - nx)))] 9)) := hbV.alloc hbV.size _
              refine wpAnyIn_ready (rs := [7]) (by kernel_rfl) (by simp) ?_
              refine BigFrame.allReadyIn_want rfl rfl (fun K hK => ?_) (AllReadyIn.nil)
              refine opIn_append_own (.tmp 34) (.tmp 40) 26 rfl (W4.heap.size + 7) 9 i0 (.string ⟨#[]⟩) 1 16 Tryd.underlying26 hi0 hz0 hz1 hz2 rfl (by decide) v _ _ rfl (kr _ hbA) ⟨V.heap.size, 0, none⟩ 1 1 [.string (rootS Sha.shaS ((L.drop nx).take (M - nx)))] rfl rfl (cell_one_new _ _ _) (by simp [Value.oneCell']) hm1 hm2 (by have := hbA.size; omega) ?_
              intro v' w6 ho6 hg6
              have hb6 := app _ _ hbA hg6
              obtain ⟨g9, cap9, rfl⟩ := ownsRow_succ ho6
              refine hK _ _ ?_
              clear hK K
              refine wpAnyIn_ready (rs := [8]) (by kernel_rfl) (by simp) ?_
              refine BigFrame.allReadyIn_want rfl rfl (fun K hK => ?_) (AllReadyIn.nil)
              have q1 := (ap1 w6 hb6).cell
              have q2 := (ap1 w6 hb6).frozen
              go_simp
              refine hK _ _ ?_
              clear hK K q1 q2
              refine wpAnyIn_done (by kernel_rfl) ?_ _
              exact fin w6 hb6 _ ho6 _ _
            · go_simp
              refine hK _ _ ?_
              clear hK K
              refine wpAnyIn_ready (rs := [0, 5]) (by kernel_rfl) (by simp) ?_
              refine BigFrame.allReadyIn_want rfl rfl (fun K hK => ?_) (BigFrame.allReadyIn_want rfl rfl (fun K hK => ?_) (AllReadyIn.nil))
              · have q0 := k1 _ hbd
                go_simp
                refine hK _ _ ?_
                clear hK K q0
                refine wpAnyIn_ready (rs := [5]) (by kernel_rfl) (by simp) ?_
                refine BigFrame.allReadyIn_want rfl rfl (fun K hK => ?_) (AllReadyIn.nil)
                go_simp
                refine ⟨trivial, (callsIn_wide.2 (rt _ hbd)).mono ?_⟩
                rintro e V ⟨rfl, hV⟩
                have hbV := below_step hbd hV
                refine hK _ _ ?_
                clear hK K
                refine wpAnyIn_ready (rs := [6]) (by kernel_rfl) (by simp) ?_
                refine BigFrame.allReadyIn_want rfl rfl (fun K hK => ?_) (AllReadyIn.nil)
                go_simp
                refine hK _ _ ?_
                clear hK K
                have hbA : Below W.heap.size W (V.alloc (.cells #[.string (rootS Sha.shaS ((L.drop nx).take (M - nx)))] 9)) := hbV.alloc hbV.size _
                refine wpAnyIn_ready (rs := [7]) (by kernel_rfl) (by simp) ?_
                refine BigFrame.allReadyIn_want rfl rfl (fun K hK => ?_) (AllReadyIn.nil)
                refine opIn_append_own (.tmp 34) (.tmp 40) 26 rfl (W4.heap.size + 7) 9 i0 (.string ⟨#[]⟩) 1 16 Tryd.underlying26 hi0 hz0 hz1 hz2 rfl (by decide) v _ _ rfl (kr _ hbA) ⟨V.heap.size, 0, none⟩ 1 1 [.string (rootS Sha.shaS ((L.drop nx).take (M - nx)))] rfl rfl (cell_one_new _ _ _) (by simp [Value.oneCell']) hm1 hm2 (by have := hbA.size; omega) ?_
                intro v' w6 ho6 hg6
                have hb6 := app _ _ hbA hg6
                obtain ⟨g9, cap9, rfl⟩ := ownsRow_succ ho6
                refine hK _ _ ?_
                clear hK K
                refine wpAnyIn_ready (rs := [8]) (by kernel_rfl) (by simp) ?_
                refine BigFrame.allReadyIn_want rfl rfl (fun K hK => ?_) (AllReadyIn.nil)
                have q1 := (ap1 w6 hb6).cell
                have q2 := (ap1 w6 hb6).frozen
                go_simp
                refine hK _ _ ?_
                clear hK K q1 q2
                refine wpAnyIn_done (by kernel_rfl) ?_ _
                exact fin w6 hb6 _ ho6 _ _
              · go_simp
                refine ⟨trivial, (callsIn_wide.2 (rt _ hbd)).mono ?_⟩
                rintro e V ⟨rfl, hV⟩
                have hbV := below_step hbd hV
                refine hK _ _ ?_
                clear hK K
                refine wpAnyIn_ready (rs := [0, 6]) (by kernel_rfl) (by simp) ?_
                refine BigFrame.allReadyIn_want rfl rfl (fun K hK => ?_) (BigFrame.allReadyIn_want rfl rfl (fun K hK => ?_) (AllReadyIn.nil))
                · have q0 := k1 _ hbV
                  go_simp
                  refine hK _ _ ?_
                  clear hK K q0
                  refine wpAnyIn_ready (rs := [6]) (by kernel_rfl) (by simp) ?_
                  refine BigFrame.allReadyIn_want rfl rfl (fun K hK => ?_) (AllReadyIn.nil)
                  go_simp
                  refine hK _ _ ?_
                  clear hK K
                  have hbA : Below W.heap.size W (V.alloc (.cells #[.string (rootS Sha.shaS ((L.drop nx).take (M - nx)))] 9)) := hbV.alloc hbV.size _
                  refine wpAnyIn_ready (rs := [7]) (by kernel_rfl) (by simp) ?_
                  refine BigFrame.allReadyIn_want rfl rfl (fun K hK => ?_) (AllReadyIn.nil)
                  refine opIn_append_own (.tmp 34) (.tmp 40) 26 rfl (W4.heap.size + 7) 9 i0 (.string ⟨#[]⟩) 1 16 Tryd.underlying26 hi0 hz0 hz1 hz2 rfl (by decide) v _ _ rfl (kr _ hbA) ⟨V.heap.size, 0, none⟩ 1 1 [.string (rootS Sha.shaS ((L.drop nx).take (M - nx)))] rfl rfl (cell_one_new _ _ _) (by simp [Value.oneCell']) hm1 hm2 (by have := hbA.size; omega) ?_
                  intro v' w6 ho6 hg6
                  have hb6 := app _ _ hbA hg6
                  obtain ⟨g9, cap9, rfl⟩ := ownsRow_succ ho6
                  refine hK _ _ ?_
                  clear hK K
                  refine wpAnyIn_ready (rs := [8]) (by kernel_rfl) (by simp) ?_
                  refine BigFrame.allReadyIn_want rfl rfl (fun K hK => ?_) (AllReadyIn.nil)
                  have q1 := (ap1 w6 hb6).cell
                  have q2 := (ap1 w6 hb6).frozen
                  go_simp
                  refine hK _ _ ?_
                  clear hK K q1 q2
                  refine wpAnyIn_done (by kernel_rfl) ?_ _
                  exact fin w6 hb6 _ ho6 _ _
                · go_simp
                  refine hK _ _ ?_
                  clear hK K
                  have hbA : Below W.heap.size W (V.alloc (.cells #[.string (rootS Sha.shaS ((L.drop nx).take (M - nx)))] 9)) := hbV.alloc hbV.size _
                  refine wpAnyIn_ready (rs := [0]) (by kernel_rfl) (by simp) ?_
                  refine BigFrame.allReadyIn_want rfl rfl (fun K hK => ?_) (AllReadyIn.nil)
                  have q0 := k1 _ hbA
                  go_simp
                  refine hK _ _ ?_
                  clear hK K q0
                  refine wpAnyIn_ready (rs := [7]) (by kernel_rfl) (by simp) ?_
                  refine BigFrame.allReadyIn_want rfl rfl (fun K hK => ?_) (AllReadyIn.nil)
                  refine opIn_append_own (.tmp 34) (.tmp 40) 26 rfl (W4.heap.size + 7) 9 i0 (.string ⟨#[]⟩) 1 16 Tryd.underlying26 hi0 hz0 hz1 hz2 rfl (by decide) v _ _ rfl (kr _ hbA) ⟨V.heap.size, 0, none⟩ 1 1 [.string (rootS Sha.shaS ((L.drop nx).take (M - nx)))] rfl rfl (cell_one_new _ _ _) (by simp [Value.oneCell']) hm1 hm2 (by have := hbA.size; omega) ?_
                  intro v' w6 ho6 hg6
                  have hb6 := app _ _ hbA hg6
                  obtain ⟨g9, cap9, rfl⟩ := ownsRow_succ ho6
                  refine hK _ _ ?_
                  clear hK K
                  refine wpAnyIn_ready (rs := [8]) (by kernel_rfl) (by simp) ?_
                  refine BigFrame.allReadyIn_want rfl rfl (fun K hK => ?_) (AllReadyIn.nil)
                  have q1 := (ap1 w6 hb6).cell
                  have q2 := (ap1 w6 hb6).frozen
                  go_simp
                  refine hK _ _ ?_
                  clear hK K q1 q2
                  refine wpAnyIn_done (by kernel_rfl) ?_ _
                  exact fin w6 hb6 _ ho6 _ _
      · rw [hRP]
        rintro e a9 V9 ⟨rfl, V, v', x40, x41, h, ho, rfl, rfl⟩
        clear hRP
        have hl := ho.lt
        have hbx : Boxed (V.setCell ⟨w.heap.size + 1, 0, none⟩ v') (w.heap.size + 1) 26 v' := (ap1 V h).set v'
        have hro : (V.setCell ⟨w.heap.size + 1, 0, none⟩ v').ownsRow (W4.heap.size + 7) 9 1 v' (asides L fs ++ [rootS Sha.shaS ((L.drop nx).take (M - nx))]).length (strV (asides L fs ++ [rootS Sha.shaS ((L.drop nx).take (M - nx))])) := by
          unfold strV at ho ⊢
          rw [List.length_append, List.map_append]
          exact ho.kept (grownBy_setCell' V (w.heap.size + 1) v') (.inr (fun e => by have := (hl _ e).1; omega))
        have hkd : (V.setCell ⟨w.heap.size + 1, 0, none⟩ v').heap[D]? = some (.deferred (some [])) := (heap_setCell_other V ⟨w.heap.size + 1, 0, none⟩ D v' (by show D ≠ w.heap.size + 1; omega)).trans ((h.2 D hDW (fun e => hvD _ e.symm rfl)).trans hK)
        have hbe : Below w.heap.size w (V.setCell ⟨w.heap.size + 1, 0, none⟩ v') := (hbel.trans (h.1.mono (by omega))).setCell (p := ⟨w.heap.size + 1, 0, none⟩) (by simp) v'
        have hql : (asides L fs ++ [rootS Sha.shaS ((L.drop nx).take (M - nx))]).length = (asides L fs).length + 1 := by rw [List.length_append]; rfl
        have hqr : (asides L fs ++ [rootS Sha.shaS ((L.drop nx).take (M - nx))]).reverse = extS Sha.shaS L M := by rw [hext, List.reverse_append]; rfl
        obtain ⟨V1, hV1⟩ : ∃ X, X = V.setCell ⟨w.heap.size + 1, 0, none⟩ v' := ⟨_, rfl⟩
        rw [← hV1] at hbx hro hkd hbe ⊢
        clear hV1 h ho hl
        generalize asides L fs ++ [rootS Sha.shaS ((L.drop nx).take (M - nx))] = Q at *
        refine hK2 _ _ ?_
        have hc := reverse_own Q (W4.heap.size + 7) v' V1 hro (by omega)
        have hVL : ∀ k, v'.ownBlock = some k → W4.heap.size + 7 ≤ k ∧ k < V1.heap.size := hro.lt
        have hvc9 := hbx.cell
        have HC := Lib.hid hc
        have HV := Lib.hid hVL
        clear hc hVL
        gi_wp2
        refine ⟨trivial, ?_⟩
        refine (callsIn_wide.2 HC.out).mono ?_
        rintro e V9 ⟨rfl, hown, hg⟩
        have hvV : Boxed V9 (w.heap.size + 1) 26 v' := hbx.kept hg (fun e => by have := (HV.out _ e.symm).1; omega)
        have hKV : V9.heap[D]? = some (.deferred (some [])) := (hg.block D (Array.getElem?_eq_some_iff.1 hkd).1 (fun e => by
          obtain ⟨cs, fz, hcs⟩ := Lib.ownsRow_kind hro D e.symm
          rw [hkd] at hcs; cases hcs)).trans hkd
        have hbV : Below w.heap.size w V9 := hbe.grown hg (by have := hbe.size; omega) (fun k e => by have := (HV.out k e).1; omega)
        have hvVc := hvV.cell
        have HO := Lib.hid (show V9.ownsRow (W4.heap.size + 7) 9 1 v' Q.reverse.length (strV Q.reverse) from (by rw [List.length_reverse]; exact hown))
        clear hown hg hvV
        gi_wp2
        refine ⟨by simp, .inl ⟨_, _, rfl, run_takeDeferred hKV, ?_⟩⟩
        refine ⟨_, results_tmp2 rfl _ _ _, ?_⟩
        rw [← hqr]
        exact ⟨⟨v', rfl, StrOwn.mono (ownsRow_putObj HO.out _ hKV rfl) (by omega)⟩, hbV.trans (belowK_b (w := w) (Nat.le_refl _) V9 D _ _ (by omega) hKV rfl rfl)⟩
    · rw [if_neg hnx, List.nil_append] at hext
      obtain rfl : nx = 0 := by omega
      have hnc := hbn.cell
      have hc := reverse_own (asides L fs) (W4.heap.size + 7) v W hrow (by omega)
      have hVL : ∀ k, v.ownBlock = some k → W4.heap.size + 7 ≤ k ∧ k < W.heap.size := hrow.lt
      have hvc9 := hv.cell
      have HC := Lib.hid hc
      have HV := Lib.hid hVL
      clear hc hVL
      gi_wp2
      refine ⟨trivial, ?_⟩
      refine (callsIn_wide.2 HC.out).mono ?_
      rintro e V9 ⟨rfl, hown, hg⟩
      have hvV : Boxed V9 (w.heap.size + 1) 26 v := hv.kept hg (fun e => by have := (HV.out _ e.symm).1; omega)
      have hKV : V9.heap[D]? = some (.deferred (some [])) := (hg.block D (Array.getElem?_eq_some_iff.1 hK).1 (fun e => by
        obtain ⟨cs, fz, hcs⟩ := Lib.ownsRow_kind hrow D e.symm
        rw [hK] at hcs; cases hcs)).trans hK
      have hbV : Below w.heap.size w V9 := hbel.grown hg (by have := hbel.size; omega) (fun k e => by have := (HV.out k e).1; omega)
      have hvVc := hvV.cell
      have HO := Lib.hid (show V9.ownsRow (W4.heap.size + 7) 9 1 v (asides L fs).reverse.length (strV (asides L fs).reverse) from (by rw [List.length_reverse]; exact hown))
      clear hown hg hvV
      gi_wp2
      refine ⟨by simp, .inl ⟨_, _, rfl, run_takeDeferred hKV, ?_⟩⟩
      refine ⟨_, results_tmp2 rfl _ _ _, ?_⟩
      rw [hext]
      exact ⟨⟨v, rfl, StrOwn.mono (ownsRow_putObj HO.out _ hKV rfl) (by omega)⟩, hbV.trans (belowK_b (w := w) (Nat.le_refl _) V9 D _ _ (by omega) hKV rfl rfl)⟩
  case stop =>
    rintro D c pre W _ _ h _
    exact h.elim
end Go.Proofs.YtbaggjhjkignkaaDoor

