/-
  The contract of the package's Proof. Condition: the table of 64 words reads as the program's text lays it.
-/
import Derived.Test.YtbaggjhjkignkaaDoorForks
import Derived.Lib.OwnBridge
import Derived.Lib.OwnKind
namespace Go.Proofs.YtbaggjhjkignkaaDoor
open Go.RowKit Go.Shelf Tree

attribute [local go_sem] Oper.semAt_some

/-- The roots aside of a way. -/
def asides (L : List ByteArray) (fs : List Fk) : List ByteArray := fs.map fun f => rootS Sha.shaS (f.aside L)
theorem asides_snoc (L : List ByteArray) (fs : List Fk) (f : Fk) : asides L (fs ++ [f]) = asides L fs ++ [rootS Sha.shaS (f.aside L)] := by unfold asides; rw [List.map_append]; rfl
/-- The way's roots are the proof, the last one first. -/
theorem asides_proof (L : List ByteArray) : ∀ (m first fin i : Nat), first < fin → fin ≤ L.length → first ≤ i → i < fin → fin - first ≤ 2 ^ m →
    asides L (forksF m first fin i) = (proofS Sha.shaS ((L.drop first).take (fin - first)) (i - first)).reverse
  | 0, first, fin, i, h0, hf, h1, h2, h3 => by
    rw [proofS_one Sha.shaS (by rw [List.length_take, List.length_drop]; simp at h3; omega)]
    rfl
  | m + 1, first, fin, i, h0, hf, h1, h2, h3 => by
    have hlen : ((L.drop first).take (fin - first)).length = fin - first := by rw [List.length_take, List.length_drop]; omega
    by_cases hd : 2 ≤ fin - first
    · have hp := leftN_pos (fin - first)
      have hq := leftN_lt hd
      have hh := leftN_half hd h3
      have hT : ((L.drop first).take (fin - first)).take (leftN (fin - first)) = (L.drop first).take (first + leftN (fin - first) - first) := by
        rw [List.take_take]; congr 1; omega
      have hD : ((L.drop first).take (fin - first)).drop (leftN (fin - first)) = (L.drop (first + leftN (fin - first))).take (fin - (first + leftN (fin - first))) := by
        rw [List.drop_take, List.drop_drop]; congr 1; omega
      by_cases hil : i < first + leftN (fin - first)
      · have ih := asides_proof L m first (first + leftN (fin - first)) i (by omega) (by omega) h1 hil (by omega)
        rw [forksF_low _ _ _ _ hd hil, proofS_low Sha.shaS (by rw [hlen]; exact hd) (by rw [hlen]; omega), List.reverse_append, hlen, hT, hD, ← ih]
        rfl
      · have ih := asides_proof L m (first + leftN (fin - first)) fin i (by omega) hf (by omega) h2 (by omega)
        rw [forksF_high _ _ _ _ hd hil, proofS_high Sha.shaS (by rw [hlen]; exact hd) (by rw [hlen]; omega), List.reverse_append, hlen, hT, hD,
          show i - first - leftN (fin - first) = i - (first + leftN (fin - first)) by omega, ← ih]
        show _ :: _ = _ :: _
        congr 2
    · rw [forksF_stop _ _ _ _ (by omega), proofS_one Sha.shaS (by omega)]
      rfl
theorem asides_whole (L : List ByteArray) (i : Nat) (h : i < L.length) (hl : L.length ≤ 2 ^ 64) : asides L (forksF 64 0 L.length i) = (proofS Sha.shaS L i).reverse := by
  have := asides_proof L 64 0 L.length i (by omega) (Nat.le_refl _) (Nat.zero_le _) h (by omega)
  rw [this, List.drop_zero, Nat.sub_zero, Nat.sub_zero, List.take_length]

/-- What Proof answers. -/
def ProofEnd (L : List ByteArray) (x : Int) (w : World) (e : Ending) (w' : World) : Prop := (∃ v, e = .returned (.tuple #[v, .int .i64 x]) ∧ StrOwn w' w.heap.size v L) ∧ Below w.heap.size w w'

/-- A variable that holds a row of strings whose block lies below b. -/
def HeldRow (B n₀ b : Nat) (L : List ByteArray) (W : World) : Prop := ∃ v, Boxed W B 26 v ∧ StrOwn W n₀ v L ∧ ∀ k, v.ownBlock = some k → k < b

set_option maxRecDepth 100000 in
set_option maxHeartbeats 4000000 in
theorem proof_yes (L : List ByteArray) (i : Nat) (b off c : Nat) (w : World) (ht : Tab w) (hA : StrA w (some ⟨b, off, none⟩) c L) (hx : ∀ x ∈ L, x.size ≤ 1000) (hi : i < L.length) (hL : L.length < 1000000) :
    Calls Tryd.prog 16 #[.slice (some ⟨b, off, none⟩) L.length c, .int .i64 i] w (ProofEnd (proofS Sha.shaS L i) 0 w) := by
  refine (callsIn_wide (n := 6)).1 ?_
  refine callsIn_of_wp_marks Tryd.func16 rfl trivial ?_ rfl
  simp only [Tryd.ntmps16, List.size_toArray, List.length_cons, List.length_nil, Nat.reduceAdd, Nat.reduceSub, Array.replicate_succ, Array.replicate_zero, List.push_toArray, List.append_toArray, List.nil_append, List.cons_append]
  have h1 : decide ((i : Int) < 0) = false := by simp
  have h2 : decide ((L.length : Int) ≤ (i : Int)) = false := by simp; omega
  gi_wp2_with (refine ⟨trivial, ?_⟩; gi_at_call 30; refine (forks_in _ _ _ _).mono ?_; rintro e w' ⟨rfl, rfl⟩)
  obtain ⟨W4, hW4⟩ : ∃ V, V = (((w.alloc (.cells #[.slice (some ⟨b, off, none⟩) L.length c] 26)).alloc (.cells #[.slice none 0 0] 26)).alloc (.cells #[.int .i64 (L.length : Int)] 3)).alloc (.cells #[.int .i64 (i : Int)] 3) := ⟨_, rfl⟩
  rw [← hW4]
  have hb4 : Below w.heap.size w W4 := by rw [hW4]; exact ((((Below.refl _ w).alloc (Nat.le_refl _) _).alloc (by simp) _).alloc (by simp; omega) _).alloc (by simp; omega) _
  have hs4 : W4.heap.size = w.heap.size + 4 := by rw [hW4]; simp
  have b0 : Boxed W4 w.heap.size 26 (.slice (some ⟨b, off, none⟩) L.length c) := by rw [hW4]; exact (((Boxed.new w _ _).alloc _).alloc _).alloc _
  have b1 : Boxed W4 (w.heap.size + 1) 26 (.slice none 0 0) := by
    rw [hW4]
    have := Boxed.new (w.alloc (.cells #[.slice (some ⟨b, off, none⟩) L.length c] 26)) 26 (.slice none 0 0)
    rw [World.size_alloc] at this
    exact (this.alloc _).alloc _
  have b2 : Boxed W4 (w.heap.size + 1 + 1) 3 (.int .i64 (L.length : Int)) := by
    rw [hW4]
    have := Boxed.new ((w.alloc (.cells #[.slice (some ⟨b, off, none⟩) L.length c] 26)).alloc (.cells #[.slice none 0 0] 26)) 3 (.int .i64 (L.length : Int))
    rw [World.size_alloc, World.size_alloc] at this
    exact this.alloc _
  have b3 : Boxed W4 (w.heap.size + 1 + 1 + 1) 3 (.int .i64 (i : Int)) := by
    rw [hW4]
    have := Boxed.new (((w.alloc (.cells #[.slice (some ⟨b, off, none⟩) L.length c] 26)).alloc (.cells #[.slice none 0 0] 26)).alloc (.cells #[.int .i64 (L.length : Int)] 3)) 3 (.int .i64 (i : Int))
    rw [World.size_alloc, World.size_alloc, World.size_alloc] at this
    exact this
  clear hW4
  have HTA := Lib.hid (And.intro ht hA)
  clear ht hA h1 h2
  refine wpIn_rangeFunc_top rfl (by omega) (gf := 48) (lb := #[.pointer (some ⟨w.heap.size + 1 + 1, 0, none⟩), .pointer (some ⟨w.heap.size + 1 + 1 + 1, 0, none⟩)]) rfl trivial (enters_of Tryd.func48 (by kernel_rfl) rfl)
    (forks_stops 5 (w.heap.size + 1 + 1) (w.heap.size + 1 + 1 + 1) L.length i (by omega) hi W4 b2.cell b3.cell) (Below.refl _ _) (fun _ => rfl)
    (fun bnd (pre : List (FkN L.length)) W => (∃ v, Boxed W (w.heap.size + 1) 26 v ∧ W.ownsRow W4.heap.size 9 1 v (asides L (pre.map (·.1))).length (strV (asides L (pre.map (·.1)))) ∧ (∀ k, v.ownBlock = some k → k < bnd) ∧ W4.heap.size ≤ bnd) ∧ Boxed W w.heap.size 26 (.slice (some ⟨b, off, none⟩) L.length c) ∧ Below w.heap.size w W)
    (fun _ _ _ => False)
    (fun bnd => OwnFrom.and (Own.from (holdsRow_own W4.heap.size (w.heap.size + 1) 26 9 1 (fun pre : List (FkN L.length) => (asides L (pre.map (·.1))).length) (fun pre => strV (asides L (pre.map (·.1)))) (fun _ v => (∀ k, v.ownBlock = some k → k < bnd) ∧ W4.heap.size ≤ bnd)) _)
      (OwnFrom.and (Own.from (boxed_own w.heap.size 26 (fun _ => .slice (some ⟨b, off, none⟩) L.length c)) _) (ownFrom_below (Nat.le_refl _) (by omega))))
    (fun _ _ _ _ _ hs _ _ => hs)
    ⟨⟨_, b1, World.ownsRow_nil _ _ _ _, (fun k e => by cases e), Nat.le_refl _⟩, b0, hb4⟩
    (fun U (x : FkN L.length) a' W => ∃ Bb : Nat, U.heap.size ≤ Bb ∧ W.heap[Bb]? = some (.cells (fkC x.1) 49 (0, 0)) ∧ (∀ (j : Nat) (o : Obj), U.heap[j]? = some o → o.isCells = true → W.heap[j]? = some o) ∧ a' = { tmps := #[.slice (some ⟨b, off, none⟩) L.length c, .int .i64 (i : Nat), .pointer (some ⟨w.heap.size, 0, none⟩), undef, .slice none 0 0, .int .i64 0, .pointer (some ⟨w.heap.size + 1, 0, none⟩), .pointer (some ⟨Bb, 0, none⟩), .int .i64 (i : Nat), .bool false, .bool false, .int .i64 (i : Nat), .slice (some ⟨b, off, none⟩) L.length c, .int .i64 (L.length : Nat), .bool false, .bool false,
        .slice (some ⟨b, off, none⟩) L.length c, .int .i64 (L.length : Nat), .int .i64 (i : Nat), .func (.func 48) #[] #[.pointer (some ⟨w.heap.size + 1 + 1, 0, none⟩), .pointer (some ⟨w.heap.size + 1 + 1 + 1, 0, none⟩)], fkV x.1, undef, undef, undef, undef, undef, undef, undef, undef, undef], defers := [] })
    (fun U x a' u A B row hs hg hr => by
      obtain ⟨Bb, h1, h2, h3, h4⟩ := hs
      have keep : ∀ (j : Nat) (o : Obj), A.heap[j]? = some o → o.isCells = true → B.heap[j]? = some o := fun j o hj ho => (hg.block _ (Array.getElem?_eq_some_iff.1 hj).1 (fun e => by
        obtain ⟨_, o', ho', hc⟩ := hr _ e.symm
        rw [hj] at ho'; cases ho'; rw [ho] at hc; cases hc)).trans hj
      exact ⟨Bb, h1, keep _ _ h2 rfl, fun j o hj ho => keep _ _ (h3 j o hj ho) ho, h4⟩)
    ?assign ?body ?done ?stop
  case assign =>
    rintro l bnd pre ⟨⟨f1, f2, f3, f4⟩, hwi⟩ U K hbk ⟨⟨v, hv, hrow, hlt, hu4⟩, hb0, hbel⟩ hK
    unfold fkV at hK ⊢
    unfold fkC at hK
    gi_wp2
    refine hK _ _ ((KeepsOthers.alloc _ _).from _) ⟨⟨v, hv.alloc _, hrow.alloc _, hlt, hu4⟩, hb0.alloc _, hbel.alloc hbel.size _⟩ ⟨U.heap.size, Nat.le_refl _, heap_alloc_new _ _, fun j o hj _ => (heap_alloc_old _ _ (Array.getElem?_eq_some_iff.1 hj).1).trans hj, rfl⟩
  case body =>
    rintro l bnd pre ⟨⟨f1, f2, f3, f4⟩, hwi⟩ U a' W hbk ⟨⟨v, hv, hrow, hlt, hu4⟩, hb0, hbel⟩ ⟨Bb, hBb, hcb, hkeep, rfl⟩ hlen _ _
    have hUW : U.heap.size ≤ W.heap.size := by have := (Array.getElem?_eq_some_iff.1 hcb).1; omega
    have hc0 := hb0.cell
    have hc1 := hv.cell
    have hf1 := hv.frozen
    have g0 : W.cell? ⟨Bb, 0, none⟩ = some (.int .i64 f1) := cell_of_row W _ 0 _ _ _ hcb
    have g1 : W.cell? ⟨Bb, 1, none⟩ = some (.int .i64 f2) := cell_of_row W _ 1 _ _ _ hcb
    have g2 : W.cell? ⟨Bb, 2, none⟩ = some (.int .i64 f3) := cell_of_row W _ 2 _ _ _ hcb
    have g3 : W.cell? ⟨Bb, 3, none⟩ = some (.bool f4) := cell_of_row W _ 3 _ _ _ hcb
    clear hc0 hc1 hf1 g0 g1 g2 g3
    gi_wp2
    refine wpIn_region_any (by kernel_rfl) ?_
    change wpAnyIn _ _ _ _ _ _ _ _ _ W.drew
    obtain ⟨i0, hi0, hz0, hz1, hz2⟩ := info_parts info_string
    have hbd : Below W.heap.size W W.drew := (Below.refl _ W).drew
    have k0 : ∀ V, Below W.heap.size W V → V.cell? ⟨w.heap.size, 0, none⟩ = some (.slice (some ⟨b, off, none⟩) L.length c) := fun V h => (h.cell (p := ⟨w.heap.size, 0, none⟩) hb0.lt).trans hb0.cell
    have k1 : ∀ V, Below W.heap.size W V → V.cell? ⟨w.heap.size + 1, 0, none⟩ = some v := fun V h => (h.cell (p := ⟨w.heap.size + 1, 0, none⟩) hv.lt).trans hv.cell
    have kf : ∀ V, Below W.heap.size W V → V.heap[Bb]? = some (.cells (fkC ⟨f1, f2, f3, f4⟩) 49 (0, 0)) := fun V h => (h.block _ (Array.getElem?_eq_some_iff.1 hcb).1).trans hcb
    have kr : ∀ V, Below W.heap.size W V → V.ownsRow W4.heap.size 9 1 v (asides L (pre.map (·.1))).length (strV (asides L (pre.map (·.1)))) := fun V h => StrOwn.below hrow h
    have huf : (Tryd.prog.info? 49).map (·.size) = some (fkC ⟨f1, f2, f3, f4⟩).size := by kernel_rfl
    have sib : ∀ V, Below W.heap.size W V → Calls Tryd.prog 31 #[.agg (fkC ⟨f1, f2, f3, f4⟩), .slice (some ⟨b, off, none⟩) L.length c] V (StrEnd (rootS Sha.shaS (Fk.aside ⟨f1, f2, f3, f4⟩ L)) V) := fun V h =>
      sibling_any ⟨f1, f2, f3, f4⟩ b off c L V hwi (HTA.out.1.below (hbel.trans (h.mono hbel.size))) (HTA.out.2.below (hbel.trans (h.mono hbel.size))) hx
    have hm1 : (asides L (pre.map (·.1))).length + 1 ≤ maxLen := by unfold asides maxLen; rw [List.length_map, List.length_map]; omega
    have hm2 : ((asides L (pre.map (·.1))).length + 1) * 16 ≤ 140737488355328 := by unfold asides; rw [List.length_map, List.length_map]; omega
    have hvl : ∀ k, v.ownBlock = some k → W4.heap.size ≤ k ∧ k < W.heap.size := hrow.lt
    have hW4W : W4.heap.size ≤ W.heap.size := by have := hb0.lt; have := hu4; have := hUW; omega
    have app : ∀ A V, Below W.heap.size W A → A.grownBy V v.ownBlock → Below W4.heap.size W V ∧ ∀ j, j < W.heap.size → some j ≠ v.ownBlock → V.heap[j]? = W.heap[j]? := fun A V h hg =>
      ⟨(h.mono hW4W).grown hg (by have := h.size; omega) (fun k e => (hvl k e).1), fun j hj hne => (hg.block j (by have := h.size; omega) hne).trans (h.block j hj)⟩
    have ap1 : ∀ V : World, (Below W4.heap.size W V ∧ ∀ j, j < W.heap.size → some j ≠ v.ownBlock → V.heap[j]? = W.heap[j]?) → Boxed V (w.heap.size + 1) 26 v := fun V h => (h.1.block _ (by omega)).trans hv
    have fin : ∀ (V : World) (_ : Below W4.heap.size W V ∧ ∀ j, j < W.heap.size → some j ≠ v.ownBlock → V.heap[j]? = W.heap[j]?) (v' : Value), V.ownsRow W4.heap.size 9 1 v' ((asides L (pre.map (·.1))).length + 1) (strV (asides L (pre.map (·.1))) ++ [.string (rootS Sha.shaS (Fk.aside ⟨f1, f2, f3, f4⟩ L))]) → (∀ k, v'.ownBlock = some k → W4.heap.size ≤ k ∧ k < V.heap.size) →
        topPost W4.heap.size 1 (fun j => j = w.heap.size + 1 + 1 + 1) (fun bnd (pre : List (FkN L.length)) W => (∃ v, Boxed W (w.heap.size + 1) 26 v ∧ W.ownsRow W4.heap.size 9 1 v (asides L (pre.map (·.1))).length (strV (asides L (pre.map (·.1)))) ∧ (∀ k, v.ownBlock = some k → k < bnd) ∧ W4.heap.size ≤ bnd) ∧ Boxed W w.heap.size 26 (.slice (some ⟨b, off, none⟩) L.length c) ∧ Below w.heap.size w W)
          (fun _ _ _ => False) (pre ++ [⟨⟨f1, f2, f3, f4⟩, hwi⟩]) U W .normal ⟨#[], []⟩ (V.setCell ⟨w.heap.size + 1, 0, none⟩ v') := fun V h v' ho hl => by
      have hset : ∀ (j : Nat) (o : Obj), j ≠ w.heap.size + 1 → V.heap[j]? = some o → (V.setCell ⟨w.heap.size + 1, 0, none⟩ v').heap[j]? = some o := fun j o hj ho => (heap_setCell_other V ⟨w.heap.size + 1, 0, none⟩ j v' hj).trans ho
      have hWV : ∀ (j : Nat) (o : Obj), j ≠ w.heap.size + 1 → some j ≠ v.ownBlock → W.heap[j]? = some o → (V.setCell ⟨w.heap.size + 1, 0, none⟩ v').heap[j]? = some o := fun j o h1 h2 ho => hset j o h1 ((h.2 j (Array.getElem?_eq_some_iff.1 ho).1 h2).trans ho)
      refine ⟨⟨by have := h.1.size; simpa using this, fun j o hj ho hc => hWV j o (by omega) (fun e => ?_) ho⟩, ⟨?_, fun j o hj ho hc => ?_⟩, ⟨v', (ap1 V h).set v', ?_, fun k e => by have := (hl k e).2; simpa using this, ?_⟩, ?_, ?_⟩
      · obtain ⟨cs, fz, hcs⟩ := Lib.ownsRow_kind hrow j e.symm
        rw [hcs] at ho; cases ho; cases hc
      · have := h.1.size; have := hUW; simp; omega
      · refine hWV j o ?_ (fun e => ?_) (hkeep j o ho hc)
        · rcases hj with rfl | hj
          · omega
          · omega
        · have h1 := hvl j e.symm
          have h2 := hlt j e.symm
          rcases hj with rfl | hj
          · omega
          · omega
      · rw [List.map_append]
        show World.ownsRow _ _ _ _ _ (asides L (pre.map (·.1) ++ [⟨f1, f2, f3, f4⟩])).length (strV (asides L (pre.map (·.1) ++ [⟨f1, f2, f3, f4⟩])))
        rw [asides_snoc, List.length_append]
        unfold strV at ho ⊢
        rw [List.map_append]
        refine ho.kept (grownBy_setCell' V (w.heap.size + 1) v') (.inr (fun e => ?_))
        have := (hl _ e).1
        omega
      · have := h.1.size; simp; omega
      · exact hset _ _ (by omega) ((h.1.block _ (by omega)).trans hb0)
      · exact (hbel.trans (h.1.mono (by omega))).setCell (p := ⟨w.heap.size + 1, 0, none⟩) (by simp) v'
    refine wpAnyIn_ready (rs := [0, 1, 2]) (by kernel_rfl) (by simp) ?_
    refine BigFrame.allReadyIn_want rfl rfl (fun K hK => ?_) (BigFrame.allReadyIn_want rfl rfl (fun K hK => ?_) (BigFrame.allReadyIn_want rfl rfl (fun K hK => ?_) (AllReadyIn.nil)))
    · have q0 := k1 _ hbd
      go_simp
      refine hK _ _ ?_
      clear hK K q0
      refine wpAnyIn_ready (rs := [1, 2]) (by kernel_rfl) (by simp) ?_
      refine BigFrame.allReadyIn_want rfl rfl (fun K hK => ?_) (BigFrame.allReadyIn_want rfl rfl (fun K hK => ?_) (AllReadyIn.nil))
      · refine opIn_load_row 49 (.tmp 7) rfl Bb rfl 49 _ (0, 0) _ (kf _ hbd) Tryd.underlying49 rfl huf (hK _ _ ?_)
        clear hK K
        refine wpAnyIn_ready (rs := [2]) (by kernel_rfl) (by simp) ?_
        refine BigFrame.allReadyIn_want rfl rfl (fun K hK => ?_) (AllReadyIn.nil)
        have q0 := k0 _ hbd
        go_simp
        refine hK _ _ ?_
        clear hK K q0
        refine wpAnyIn_ready (rs := [3]) (by kernel_rfl) (by simp) ?_
        refine BigFrame.allReadyIn_want rfl rfl (fun K hK => ?_) (AllReadyIn.nil)
        go_simp
        refine ⟨trivial, (CallsIn.inRound l (callsIn_wide.2 (sib _ hbd))).mono ?_⟩
        rintro e V ⟨rfl, hV⟩
        have hbV := below_step hbd hV
        refine hK _ _ ?_
        clear hK K
        refine wpAnyIn_ready (rs := [4]) (by kernel_rfl) (by simp) ?_
        refine BigFrame.allReadyIn_want rfl rfl (fun K hK => ?_) (AllReadyIn.nil)
        go_simp
        refine hK _ _ ?_
        clear hK K
        have hbA : Below W.heap.size W (V.alloc (.cells #[.string (rootS Sha.shaS (Fk.aside ⟨f1, f2, f3, f4⟩ L))] 9)) := hbV.alloc hbV.size _
        refine wpAnyIn_ready (rs := [5]) (by kernel_rfl) (by simp) ?_
        refine BigFrame.allReadyIn_want rfl rfl (fun K hK => ?_) (AllReadyIn.nil)
        refine opIn_append_own (.tmp 21) (.tmp 25) 26 rfl W4.heap.size 9 i0 (.string ⟨#[]⟩) 1 16 Tryd.underlying26 hi0 hz0 hz1 hz2 rfl (by decide) v _ _ rfl (kr _ hbA) ⟨V.heap.size, 0, none⟩ 1 1 [.string (rootS Sha.shaS (Fk.aside ⟨f1, f2, f3, f4⟩ L))] rfl rfl (cell_one_new _ _ _) (by simp [Value.oneCell']) hm1 hm2 (by have := hbA.size; omega) ?_
        intro v' w6 ho6 hg6
        have hb6 := app _ _ hbA hg6
        have hl6 := (ho6.lt)
        obtain ⟨g9, cap9, rfl⟩ := ownsRow_succ ho6
        refine hK _ _ ?_
        clear hK K
        refine wpAnyIn_ready (rs := [6]) (by kernel_rfl) (by simp) ?_
        refine BigFrame.allReadyIn_want rfl rfl (fun K hK => ?_) (AllReadyIn.nil)
        have q1 := (ap1 w6 hb6).cell
        have q2 := (ap1 w6 hb6).frozen
        go_simp
        refine hK _ _ ?_
        clear hK K q1 q2
        refine wpAnyIn_done (by kernel_rfl) ?_ _
        exact fin w6 hb6 _ ho6 hl6
      · have q0 := k0 _ hbd
        go_simp
        refine hK _ _ ?_
        clear hK K q0
        refine wpAnyIn_ready (rs := [1]) (by kernel_rfl) (by simp) ?_
        refine BigFrame.allReadyIn_want rfl rfl (fun K hK => ?_) (AllReadyIn.nil)
        refine opIn_load_row 49 (.tmp 7) rfl Bb rfl 49 _ (0, 0) _ (kf _ hbd) Tryd.underlying49 rfl huf (hK _ _ ?_)
        clear hK K
        refine wpAnyIn_ready (rs := [3]) (by kernel_rfl) (by simp) ?_
        refine BigFrame.allReadyIn_want rfl rfl (fun K hK => ?_) (AllReadyIn.nil)
        go_simp
        refine ⟨trivial, (CallsIn.inRound l (callsIn_wide.2 (sib _ hbd))).mono ?_⟩
        rintro e V ⟨rfl, hV⟩
        have hbV := below_step hbd hV
        refine hK _ _ ?_
        clear hK K
        refine wpAnyIn_ready (rs := [4]) (by kernel_rfl) (by simp) ?_
        refine BigFrame.allReadyIn_want rfl rfl (fun K hK => ?_) (AllReadyIn.nil)
        go_simp
        refine hK _ _ ?_
        clear hK K
        have hbA : Below W.heap.size W (V.alloc (.cells #[.string (rootS Sha.shaS (Fk.aside ⟨f1, f2, f3, f4⟩ L))] 9)) := hbV.alloc hbV.size _
        refine wpAnyIn_ready (rs := [5]) (by kernel_rfl) (by simp) ?_
        refine BigFrame.allReadyIn_want rfl rfl (fun K hK => ?_) (AllReadyIn.nil)
        refine opIn_append_own (.tmp 21) (.tmp 25) 26 rfl W4.heap.size 9 i0 (.string ⟨#[]⟩) 1 16 Tryd.underlying26 hi0 hz0 hz1 hz2 rfl (by decide) v _ _ rfl (kr _ hbA) ⟨V.heap.size, 0, none⟩ 1 1 [.string (rootS Sha.shaS (Fk.aside ⟨f1, f2, f3, f4⟩ L))] rfl rfl (cell_one_new _ _ _) (by simp [Value.oneCell']) hm1 hm2 (by have := hbA.size; omega) ?_
        intro v' w6 ho6 hg6
        have hb6 := app _ _ hbA hg6
        have hl6 := (ho6.lt)
        obtain ⟨g9, cap9, rfl⟩ := ownsRow_succ ho6
        refine hK _ _ ?_
        clear hK K
        refine wpAnyIn_ready (rs := [6]) (by kernel_rfl) (by simp) ?_
        refine BigFrame.allReadyIn_want rfl rfl (fun K hK => ?_) (AllReadyIn.nil)
        have q1 := (ap1 w6 hb6).cell
        have q2 := (ap1 w6 hb6).frozen
        go_simp
        refine hK _ _ ?_
        clear hK K q1 q2
        refine wpAnyIn_done (by kernel_rfl) ?_ _
        exact fin w6 hb6 _ ho6 hl6
    · refine opIn_load_row 49 (.tmp 7) rfl Bb rfl 49 _ (0, 0) _ (kf _ hbd) Tryd.underlying49 rfl huf (hK _ _ ?_)
      clear hK K
      refine wpAnyIn_ready (rs := [0, 2]) (by kernel_rfl) (by simp) ?_
      refine BigFrame.allReadyIn_want rfl rfl (fun K hK => ?_) (BigFrame.allReadyIn_want rfl rfl (fun K hK => ?_) (AllReadyIn.nil))
      · have q0 := k1 _ hbd
        go_simp
        refine hK _ _ ?_
        clear hK K q0
        refine wpAnyIn_ready (rs := [2]) (by kernel_rfl) (by simp) ?_
        refine BigFrame.allReadyIn_want rfl rfl (fun K hK => ?_) (AllReadyIn.nil)
        have q0 := k0 _ hbd
        go_simp
        refine hK _ _ ?_
        clear hK K q0
        refine wpAnyIn_ready (rs := [3]) (by kernel_rfl) (by simp) ?_
        refine BigFrame.allReadyIn_want rfl rfl (fun K hK => ?_) (AllReadyIn.nil)
        go_simp
        refine ⟨trivial, (CallsIn.inRound l (callsIn_wide.2 (sib _ hbd))).mono ?_⟩
        rintro e V ⟨rfl, hV⟩
        have hbV := below_step hbd hV
        refine hK _ _ ?_
        clear hK K
        refine wpAnyIn_ready (rs := [4]) (by kernel_rfl) (by simp) ?_
        refine BigFrame.allReadyIn_want rfl rfl (fun K hK => ?_) (AllReadyIn.nil)
        go_simp
        refine hK _ _ ?_
        clear hK K
        have hbA : Below W.heap.size W (V.alloc (.cells #[.string (rootS Sha.shaS (Fk.aside ⟨f1, f2, f3, f4⟩ L))] 9)) := hbV.alloc hbV.size _
        refine wpAnyIn_ready (rs := [5]) (by kernel_rfl) (by simp) ?_
        refine BigFrame.allReadyIn_want rfl rfl (fun K hK => ?_) (AllReadyIn.nil)
        refine opIn_append_own (.tmp 21) (.tmp 25) 26 rfl W4.heap.size 9 i0 (.string ⟨#[]⟩) 1 16 Tryd.underlying26 hi0 hz0 hz1 hz2 rfl (by decide) v _ _ rfl (kr _ hbA) ⟨V.heap.size, 0, none⟩ 1 1 [.string (rootS Sha.shaS (Fk.aside ⟨f1, f2, f3, f4⟩ L))] rfl rfl (cell_one_new _ _ _) (by simp [Value.oneCell']) hm1 hm2 (by have := hbA.size; omega) ?_
        intro v' w6 ho6 hg6
        have hb6 := app _ _ hbA hg6
        have hl6 := (ho6.lt)
        obtain ⟨g9, cap9, rfl⟩ := ownsRow_succ ho6
        refine hK _ _ ?_
        clear hK K
        refine wpAnyIn_ready (rs := [6]) (by kernel_rfl) (by simp) ?_
        refine BigFrame.allReadyIn_want rfl rfl (fun K hK => ?_) (AllReadyIn.nil)
        have q1 := (ap1 w6 hb6).cell
        have q2 := (ap1 w6 hb6).frozen
        go_simp
        refine hK _ _ ?_
        clear hK K q1 q2
        refine wpAnyIn_done (by kernel_rfl) ?_ _
        exact fin w6 hb6 _ ho6 hl6
      · have q0 := k0 _ hbd
        go_simp
        refine hK _ _ ?_
        clear hK K q0
        refine wpAnyIn_ready (rs := [0, 3]) (by kernel_rfl) (by simp) ?_
        refine BigFrame.allReadyIn_want rfl rfl (fun K hK => ?_) (BigFrame.allReadyIn_want rfl rfl (fun K hK => ?_) (AllReadyIn.nil))
        · have q0 := k1 _ hbd
          go_simp
          refine hK _ _ ?_
          clear hK K q0
          refine wpAnyIn_ready (rs := [3]) (by kernel_rfl) (by simp) ?_
          refine BigFrame.allReadyIn_want rfl rfl (fun K hK => ?_) (AllReadyIn.nil)
          go_simp
          refine ⟨trivial, (CallsIn.inRound l (callsIn_wide.2 (sib _ hbd))).mono ?_⟩
          rintro e V ⟨rfl, hV⟩
          have hbV := below_step hbd hV
          refine hK _ _ ?_
          clear hK K
          refine wpAnyIn_ready (rs := [4]) (by kernel_rfl) (by simp) ?_
          refine BigFrame.allReadyIn_want rfl rfl (fun K hK => ?_) (AllReadyIn.nil)
          go_simp
          refine hK _ _ ?_
          clear hK K
          have hbA : Below W.heap.size W (V.alloc (.cells #[.string (rootS Sha.shaS (Fk.aside ⟨f1, f2, f3, f4⟩ L))] 9)) := hbV.alloc hbV.size _
          refine wpAnyIn_ready (rs := [5]) (by kernel_rfl) (by simp) ?_
          refine BigFrame.allReadyIn_want rfl rfl (fun K hK => ?_) (AllReadyIn.nil)
          refine opIn_append_own (.tmp 21) (.tmp 25) 26 rfl W4.heap.size 9 i0 (.string ⟨#[]⟩) 1 16 Tryd.underlying26 hi0 hz0 hz1 hz2 rfl (by decide) v _ _ rfl (kr _ hbA) ⟨V.heap.size, 0, none⟩ 1 1 [.string (rootS Sha.shaS (Fk.aside ⟨f1, f2, f3, f4⟩ L))] rfl rfl (cell_one_new _ _ _) (by simp [Value.oneCell']) hm1 hm2 (by have := hbA.size; omega) ?_
          intro v' w6 ho6 hg6
          have hb6 := app _ _ hbA hg6
          have hl6 := (ho6.lt)
          obtain ⟨g9, cap9, rfl⟩ := ownsRow_succ ho6
          refine hK _ _ ?_
          clear hK K
          refine wpAnyIn_ready (rs := [6]) (by kernel_rfl) (by simp) ?_
          refine BigFrame.allReadyIn_want rfl rfl (fun K hK => ?_) (AllReadyIn.nil)
          have q1 := (ap1 w6 hb6).cell
          have q2 := (ap1 w6 hb6).frozen
          go_simp
          refine hK _ _ ?_
          clear hK K q1 q2
          refine wpAnyIn_done (by kernel_rfl) ?_ _
          exact fin w6 hb6 _ ho6 hl6
        · go_simp
          refine ⟨trivial, (CallsIn.inRound l (callsIn_wide.2 (sib _ hbd))).mono ?_⟩
          rintro e V ⟨rfl, hV⟩
          have hbV := below_step hbd hV
          refine hK _ _ ?_
          clear hK K
          refine wpAnyIn_ready (rs := [0, 4]) (by kernel_rfl) (by simp) ?_
          refine BigFrame.allReadyIn_want rfl rfl (fun K hK => ?_) (BigFrame.allReadyIn_want rfl rfl (fun K hK => ?_) (AllReadyIn.nil))
          · have q0 := k1 _ hbV
            go_simp
            refine hK _ _ ?_
            clear hK K q0
            refine wpAnyIn_ready (rs := [4]) (by kernel_rfl) (by simp) ?_
            refine BigFrame.allReadyIn_want rfl rfl (fun K hK => ?_) (AllReadyIn.nil)
            go_simp
            refine hK _ _ ?_
            clear hK K
            have hbA : Below W.heap.size W (V.alloc (.cells #[.string (rootS Sha.shaS (Fk.aside ⟨f1, f2, f3, f4⟩ L))] 9)) := hbV.alloc hbV.size _
            refine wpAnyIn_ready (rs := [5]) (by kernel_rfl) (by simp) ?_
            refine BigFrame.allReadyIn_want rfl rfl (fun K hK => ?_) (AllReadyIn.nil)
            refine opIn_append_own (.tmp 21) (.tmp 25) 26 rfl W4.heap.size 9 i0 (.string ⟨#[]⟩) 1 16 Tryd.underlying26 hi0 hz0 hz1 hz2 rfl (by decide) v _ _ rfl (kr _ hbA) ⟨V.heap.size, 0, none⟩ 1 1 [.string (rootS Sha.shaS (Fk.aside ⟨f1, f2, f3, f4⟩ L))] rfl rfl (cell_one_new _ _ _) (by simp [Value.oneCell']) hm1 hm2 (by have := hbA.size; omega) ?_
            intro v' w6 ho6 hg6
            have hb6 := app _ _ hbA hg6
            have hl6 := (ho6.lt)
            obtain ⟨g9, cap9, rfl⟩ := ownsRow_succ ho6
            refine hK _ _ ?_
            clear hK K
            refine wpAnyIn_ready (rs := [6]) (by kernel_rfl) (by simp) ?_
            refine BigFrame.allReadyIn_want rfl rfl (fun K hK => ?_) (AllReadyIn.nil)
            have q1 := (ap1 w6 hb6).cell
            have q2 := (ap1 w6 hb6).frozen
            go_simp
            refine hK _ _ ?_
            clear hK K q1 q2
            refine wpAnyIn_done (by kernel_rfl) ?_ _
            exact fin w6 hb6 _ ho6 hl6
          · go_simp
            refine hK _ _ ?_
            clear hK K
            have hbA : Below W.heap.size W (V.alloc (.cells #[.string (rootS Sha.shaS (Fk.aside ⟨f1, f2, f3, f4⟩ L))] 9)) := hbV.alloc hbV.size _
            refine wpAnyIn_ready (rs := [0]) (by kernel_rfl) (by simp) ?_
            refine BigFrame.allReadyIn_want rfl rfl (fun K hK => ?_) (AllReadyIn.nil)
            have q0 := k1 _ hbA
            go_simp
            refine hK _ _ ?_
            clear hK K q0
            refine wpAnyIn_ready (rs := [5]) (by kernel_rfl) (by simp) ?_
            refine BigFrame.allReadyIn_want rfl rfl (fun K hK => ?_) (AllReadyIn.nil)
            refine opIn_append_own (.tmp 21) (.tmp 25) 26 rfl W4.heap.size 9 i0 (.string ⟨#[]⟩) 1 16 Tryd.underlying26 hi0 hz0 hz1 hz2 rfl (by decide) v _ _ rfl (kr _ hbA) ⟨V.heap.size, 0, none⟩ 1 1 [.string (rootS Sha.shaS (Fk.aside ⟨f1, f2, f3, f4⟩ L))] rfl rfl (cell_one_new _ _ _) (by simp [Value.oneCell']) hm1 hm2 (by have := hbA.size; omega) ?_
            intro v' w6 ho6 hg6
            have hb6 := app _ _ hbA hg6
            have hl6 := (ho6.lt)
            obtain ⟨g9, cap9, rfl⟩ := ownsRow_succ ho6
            refine hK _ _ ?_
            clear hK K
            refine wpAnyIn_ready (rs := [6]) (by kernel_rfl) (by simp) ?_
            refine BigFrame.allReadyIn_want rfl rfl (fun K hK => ?_) (AllReadyIn.nil)
            have q1 := (ap1 w6 hb6).cell
            have q2 := (ap1 w6 hb6).frozen
            go_simp
            refine hK _ _ ?_
            clear hK K q1 q2
            refine wpAnyIn_done (by kernel_rfl) ?_ _
            exact fin w6 hb6 _ ho6 hl6
    · have q0 := k0 _ hbd
      go_simp
      refine hK _ _ ?_
      clear hK K q0
      refine wpAnyIn_ready (rs := [0, 1]) (by kernel_rfl) (by simp) ?_
      refine BigFrame.allReadyIn_want rfl rfl (fun K hK => ?_) (BigFrame.allReadyIn_want rfl rfl (fun K hK => ?_) (AllReadyIn.nil))
      · have q0 := k1 _ hbd
        go_simp
        refine hK _ _ ?_
        clear hK K q0
        refine wpAnyIn_ready (rs := [1]) (by kernel_rfl) (by simp) ?_
        refine BigFrame.allReadyIn_want rfl rfl (fun K hK => ?_) (AllReadyIn.nil)
        refine opIn_load_row 49 (.tmp 7) rfl Bb rfl 49 _ (0, 0) _ (kf _ hbd) Tryd.underlying49 rfl huf (hK _ _ ?_)
        clear hK K
        refine wpAnyIn_ready (rs := [3]) (by kernel_rfl) (by simp) ?_
        refine BigFrame.allReadyIn_want rfl rfl (fun K hK => ?_) (AllReadyIn.nil)
        go_simp
        refine ⟨trivial, (CallsIn.inRound l (callsIn_wide.2 (sib _ hbd))).mono ?_⟩
        rintro e V ⟨rfl, hV⟩
        have hbV := below_step hbd hV
        refine hK _ _ ?_
        clear hK K
        refine wpAnyIn_ready (rs := [4]) (by kernel_rfl) (by simp) ?_
        refine BigFrame.allReadyIn_want rfl rfl (fun K hK => ?_) (AllReadyIn.nil)
        go_simp
        refine hK _ _ ?_
        clear hK K
        have hbA : Below W.heap.size W (V.alloc (.cells #[.string (rootS Sha.shaS (Fk.aside ⟨f1, f2, f3, f4⟩ L))] 9)) := hbV.alloc hbV.size _
        refine wpAnyIn_ready (rs := [5]) (by kernel_rfl) (by simp) ?_
        refine BigFrame.allReadyIn_want rfl rfl (fun K hK => ?_) (AllReadyIn.nil)
        refine opIn_append_own (.tmp 21) (.tmp 25) 26 rfl W4.heap.size 9 i0 (.string ⟨#[]⟩) 1 16 Tryd.underlying26 hi0 hz0 hz1 hz2 rfl (by decide) v _ _ rfl (kr _ hbA) ⟨V.heap.size, 0, none⟩ 1 1 [.string (rootS Sha.shaS (Fk.aside ⟨f1, f2, f3, f4⟩ L))] rfl rfl (cell_one_new _ _ _) (by simp [Value.oneCell']) hm1 hm2 (by have := hbA.size; omega) ?_
        intro v' w6 ho6 hg6
        have hb6 := app _ _ hbA hg6
        have hl6 := (ho6.lt)
        obtain ⟨g9, cap9, rfl⟩ := ownsRow_succ ho6
        refine hK _ _ ?_
        clear hK K
        refine wpAnyIn_ready (rs := [6]) (by kernel_rfl) (by simp) ?_
        refine BigFrame.allReadyIn_want rfl rfl (fun K hK => ?_) (AllReadyIn.nil)
        have q1 := (ap1 w6 hb6).cell
        have q2 := (ap1 w6 hb6).frozen
        go_simp
        refine hK _ _ ?_
        clear hK K q1 q2
        refine wpAnyIn_done (by kernel_rfl) ?_ _
        exact fin w6 hb6 _ ho6 hl6
      · refine opIn_load_row 49 (.tmp 7) rfl Bb rfl 49 _ (0, 0) _ (kf _ hbd) Tryd.underlying49 rfl huf (hK _ _ ?_)
        clear hK K
        refine wpAnyIn_ready (rs := [0, 3]) (by kernel_rfl) (by simp) ?_
        refine BigFrame.allReadyIn_want rfl rfl (fun K hK => ?_) (BigFrame.allReadyIn_want rfl rfl (fun K hK => ?_) (AllReadyIn.nil))
        · have q0 := k1 _ hbd
          go_simp
          refine hK _ _ ?_
          clear hK K q0
          refine wpAnyIn_ready (rs := [3]) (by kernel_rfl) (by simp) ?_
          refine BigFrame.allReadyIn_want rfl rfl (fun K hK => ?_) (AllReadyIn.nil)
          go_simp
          refine ⟨trivial, (CallsIn.inRound l (callsIn_wide.2 (sib _ hbd))).mono ?_⟩
          rintro e V ⟨rfl, hV⟩
          have hbV := below_step hbd hV
          refine hK _ _ ?_
          clear hK K
          refine wpAnyIn_ready (rs := [4]) (by kernel_rfl) (by simp) ?_
          refine BigFrame.allReadyIn_want rfl rfl (fun K hK => ?_) (AllReadyIn.nil)
          go_simp
          refine hK _ _ ?_
          clear hK K
          have hbA : Below W.heap.size W (V.alloc (.cells #[.string (rootS Sha.shaS (Fk.aside ⟨f1, f2, f3, f4⟩ L))] 9)) := hbV.alloc hbV.size _
          refine wpAnyIn_ready (rs := [5]) (by kernel_rfl) (by simp) ?_
          refine BigFrame.allReadyIn_want rfl rfl (fun K hK => ?_) (AllReadyIn.nil)
          refine opIn_append_own (.tmp 21) (.tmp 25) 26 rfl W4.heap.size 9 i0 (.string ⟨#[]⟩) 1 16 Tryd.underlying26 hi0 hz0 hz1 hz2 rfl (by decide) v _ _ rfl (kr _ hbA) ⟨V.heap.size, 0, none⟩ 1 1 [.string (rootS Sha.shaS (Fk.aside ⟨f1, f2, f3, f4⟩ L))] rfl rfl (cell_one_new _ _ _) (by simp [Value.oneCell']) hm1 hm2 (by have := hbA.size; omega) ?_
          intro v' w6 ho6 hg6
          have hb6 := app _ _ hbA hg6
          have hl6 := (ho6.lt)
          obtain ⟨g9, cap9, rfl⟩ := ownsRow_succ ho6
          refine hK _ _ ?_
          clear hK K
          refine wpAnyIn_ready (rs := [6]) (by kernel_rfl) (by simp) ?_
          refine BigFrame.allReadyIn_want rfl rfl (fun K hK => ?_) (AllReadyIn.nil)
          have q1 := (ap1 w6 hb6).cell
          have q2 := (ap1 w6 hb6).frozen
          go_simp
          refine hK _ _ ?_
          clear hK K q1 q2
          refine wpAnyIn_done (by kernel_rfl) ?_ _
          exact fin w6 hb6 _ ho6 hl6
        · go_simp
          refine ⟨trivial, (CallsIn.inRound l (callsIn_wide.2 (sib _ hbd))).mono ?_⟩
          rintro e V ⟨rfl, hV⟩
          have hbV := below_step hbd hV
          refine hK _ _ ?_
          clear hK K
          refine wpAnyIn_ready (rs := [0, 4]) (by kernel_rfl) (by simp) ?_
          refine BigFrame.allReadyIn_want rfl rfl (fun K hK => ?_) (BigFrame.allReadyIn_want rfl rfl (fun K hK => ?_) (AllReadyIn.nil))
          · have q0 := k1 _ hbV
            go_simp
            refine hK _ _ ?_
            clear hK K q0
            refine wpAnyIn_ready (rs := [4]) (by kernel_rfl) (by simp) ?_
            refine BigFrame.allReadyIn_want rfl rfl (fun K hK => ?_) (AllReadyIn.nil)
            go_simp
            refine hK _ _ ?_
            clear hK K
            have hbA : Below W.heap.size W (V.alloc (.cells #[.string (rootS Sha.shaS (Fk.aside ⟨f1, f2, f3, f4⟩ L))] 9)) := hbV.alloc hbV.size _
            refine wpAnyIn_ready (rs := [5]) (by kernel_rfl) (by simp) ?_
            refine BigFrame.allReadyIn_want rfl rfl (fun K hK => ?_) (AllReadyIn.nil)
            refine opIn_append_own (.tmp 21) (.tmp 25) 26 rfl W4.heap.size 9 i0 (.string ⟨#[]⟩) 1 16 Tryd.underlying26 hi0 hz0 hz1 hz2 rfl (by decide) v _ _ rfl (kr _ hbA) ⟨V.heap.size, 0, none⟩ 1 1 [.string (rootS Sha.shaS (Fk.aside ⟨f1, f2, f3, f4⟩ L))] rfl rfl (cell_one_new _ _ _) (by simp [Value.oneCell']) hm1 hm2 (by have := hbA.size; omega) ?_
            intro v' w6 ho6 hg6
            have hb6 := app _ _ hbA hg6
            have hl6 := (ho6.lt)
            obtain ⟨g9, cap9, rfl⟩ := ownsRow_succ ho6
            refine hK _ _ ?_
            clear hK K
            refine wpAnyIn_ready (rs := [6]) (by kernel_rfl) (by simp) ?_
            refine BigFrame.allReadyIn_want rfl rfl (fun K hK => ?_) (AllReadyIn.nil)
            have q1 := (ap1 w6 hb6).cell
            have q2 := (ap1 w6 hb6).frozen
            go_simp
            refine hK _ _ ?_
            clear hK K q1 q2
            refine wpAnyIn_done (by kernel_rfl) ?_ _
            exact fin w6 hb6 _ ho6 hl6
          · go_simp
            refine hK _ _ ?_
            clear hK K
            have hbA : Below W.heap.size W (V.alloc (.cells #[.string (rootS Sha.shaS (Fk.aside ⟨f1, f2, f3, f4⟩ L))] 9)) := hbV.alloc hbV.size _
            refine wpAnyIn_ready (rs := [0]) (by kernel_rfl) (by simp) ?_
            refine BigFrame.allReadyIn_want rfl rfl (fun K hK => ?_) (AllReadyIn.nil)
            have q0 := k1 _ hbA
            go_simp
            refine hK _ _ ?_
            clear hK K q0
            refine wpAnyIn_ready (rs := [5]) (by kernel_rfl) (by simp) ?_
            refine BigFrame.allReadyIn_want rfl rfl (fun K hK => ?_) (AllReadyIn.nil)
            refine opIn_append_own (.tmp 21) (.tmp 25) 26 rfl W4.heap.size 9 i0 (.string ⟨#[]⟩) 1 16 Tryd.underlying26 hi0 hz0 hz1 hz2 rfl (by decide) v _ _ rfl (kr _ hbA) ⟨V.heap.size, 0, none⟩ 1 1 [.string (rootS Sha.shaS (Fk.aside ⟨f1, f2, f3, f4⟩ L))] rfl rfl (cell_one_new _ _ _) (by simp [Value.oneCell']) hm1 hm2 (by have := hbA.size; omega) ?_
            intro v' w6 ho6 hg6
            have hb6 := app _ _ hbA hg6
            have hl6 := (ho6.lt)
            obtain ⟨g9, cap9, rfl⟩ := ownsRow_succ ho6
            refine hK _ _ ?_
            clear hK K
            refine wpAnyIn_ready (rs := [6]) (by kernel_rfl) (by simp) ?_
            refine BigFrame.allReadyIn_want rfl rfl (fun K hK => ?_) (AllReadyIn.nil)
            have q1 := (ap1 w6 hb6).cell
            have q2 := (ap1 w6 hb6).frozen
            go_simp
            refine hK _ _ ?_
            clear hK K q1 q2
            refine wpAnyIn_done (by kernel_rfl) ?_ _
            exact fin w6 hb6 _ ho6 hl6
  case done =>
    rintro D bnd xs W hD hbW hS ⟨⟨v, hv, hrow, hlt, hu4⟩, hb0, hbel⟩ hK
    rw [hS, asides_whole L i hi (by omega)] at hrow
    have hpl := proof_len Sha.shaS 64 L i (by omega)
    have hc := reverse_own _ W4.heap.size v W hrow (by rw [List.length_reverse]; omega)
    rw [List.reverse_reverse, List.length_reverse] at hc
    have hvl : ∀ k, v.ownBlock = some k → W4.heap.size ≤ k ∧ k < W.heap.size := hrow.lt
    have hDW := (Array.getElem?_eq_some_iff.1 hK).1
    have hvD : ∀ k, v.ownBlock = some k → k ≠ D := fun k e hk => by
      subst hk
      obtain ⟨cs, fz, hcs⟩ := Lib.ownsRow_kind hrow k e
      rw [hK] at hcs; cases hcs
    have hvc := hv.cell
    have HC := Lib.hid hc
    have HV := Lib.hid (And.intro hvl hvD)
    have HH := Lib.hid (And.intro hv (And.intro hbel hK))
    clear hc hvl hvD hv hbel hK hrow hlt hu4 hb0 hS
    gi_wp2
    refine ⟨trivial, ?_⟩
    refine (callsIn_wide.2 HC.out).mono ?_
    rintro e V ⟨rfl, hown, hg⟩
    have hvV : Boxed V (w.heap.size + 1) 26 v := HH.out.1.kept hg (fun e => by have := (HV.out.1 _ e.symm).1; omega)
    have hKV : V.heap[D]? = some (.deferred (some [])) := (hg.block D hDW (fun e => HV.out.2 _ e.symm rfl)).trans HH.out.2.2
    have hbV : Below w.heap.size w V := HH.out.2.1.grown hg (by omega) (fun k e => by have := (HV.out.1 k e).1; omega)
    have hvVc := hvV.cell
    have HO := Lib.hid hown
    clear hown hg hvV
    gi_wp2
    refine ⟨by simp, .inl ⟨_, _, rfl, run_takeDeferred hKV, ?_⟩⟩
    refine ⟨_, results_tmp2 rfl _ _ _, ?_⟩
    exact ⟨⟨v, rfl, StrOwn.mono (ownsRow_putObj HO.out _ hKV rfl) (by omega)⟩, hbV.trans (belowK_b (w := w) (Nat.le_refl _) V D _ _ (by omega) hKV rfl rfl)⟩
  case stop =>
    rintro D c pre W _ _ h _
    exact h.elim

set_option maxRecDepth 100000 in
set_option maxHeartbeats 1000000 in
theorem proof_no (L : List ByteArray) (i : Int) (a : Option Addr) (c : Nat) (w : World) (hi : i < 0 ∨ (L.length : Int) ≤ i) :
    Calls Tryd.prog 16 #[.slice a L.length c, .int .i64 i] w (ProofEnd [] 2 w) := by
  have he : ProofEnd [] 2 w (.returned (.tuple #[.slice none 0 0, .int .i64 2])) (w.alloc (.cells #[.slice a L.length c] 26)) :=
    ⟨⟨_, rfl, World.ownsRow_nil _ _ _ _⟩, (Below.refl _ _).alloc (Nat.le_refl _) _⟩
  have HE := Lib.hid he
  clear he
  by_cases h0 : i < 0
  · go_enter Tryd.func16, Tryd.ntmps16
    go_wp2_with fail
    go_ret2
    exact HE.out
  · have h1 : decide (i < 0) = false := by simp; omega
    have h2 : (L.length : Int) ≤ i := by omega
    go_enter Tryd.func16, Tryd.ntmps16
    go_wp2_with fail
    go_ret2
    exact HE.out
end Go.Proofs.YtbaggjhjkignkaaDoor

