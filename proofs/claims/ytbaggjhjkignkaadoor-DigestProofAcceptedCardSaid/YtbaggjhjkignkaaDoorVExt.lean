/-
  The contract of the package's VerifyExtension. Condition: the table of 64 words reads as the program's text lays it.
-/
import Derived.Test.YtbaggjhjkignkaaDoorExt
namespace Go.Proofs.YtbaggjhjkignkaaDoor
open Go.RowKit Go.Shelf Tree

attribute [local go_sem] Oper.semAt_some

/-- What VerifyExtension answers for a beginning of at least one entry. -/
def vexB (old : ByteArray) (m : Nat) (root : ByteArray) (n : Nat) (P : List ByteArray) : Bool := decide (bothR Sha.shaS old m n true P.reverse = some (old, root))

/-- A row of two strings that was laid just now. -/
theorem strA_two (w : World) (x y : ByteArray) : StrA (w.alloc (.cells #[.string x, .string y] 9)) (some ⟨w.heap.size, 0, none⟩) 2 [x, y] := by
  refine ⟨by simp, by decide, fun i hi => ⟨w.heap.size, 0, rfl, by simp, ?_⟩⟩
  rw [Nat.zero_add]
  have h := cell_of_row (w.alloc (.cells #[.string x, .string y] 9)) w.heap.size i _ _ _ (heap_alloc_new w _)
  rw [h]
  match i, hi with
  | 0, _ => rfl
  | 1, _ => rfl

theorem fkFn_kept {W V : World} {v : Value} {N n₀ : Nat} {F : Nat → Fk} (h : Below W.heap.size W V) (hf : (v = .slice none 0 0 ∧ N = 0) ∨ ∃ g cap, v = .slice (some ⟨g, 0, none⟩) N cap ∧ FkFn W g N F ∧ n₀ ≤ g ∧ g < W.heap.size ∧ N ≤ cap ∧ cap ≤ maxLen) :
    (v = .slice none 0 0 ∧ N = 0) ∨ ∃ g cap, v = .slice (some ⟨g, 0, none⟩) N cap ∧ FkFn V g N F ∧ n₀ ≤ g ∧ g < V.heap.size ∧ N ≤ cap ∧ cap ≤ maxLen := by
  rcases hf with hf | ⟨g, cap, q1, q2, q3, q4, q5⟩
  · exact .inl hf
  · exact .inr ⟨g, cap, q1, q2.kept (h.block g q4), q3, Nat.lt_of_lt_of_le q4 h.size, q5⟩
theorem toList_iff {x y : ByteArray} : x.toList = y.toList ↔ x = y := by
  rw [Lib.toList_data, Lib.toList_data]
  exact ⟨fun h => ByteArray.ext (Array.toList_inj.1 h), fun h => by rw [h]⟩
theorem pair_yes (p : ByteArray × ByteArray) (x y : ByteArray) (h : p.1.toList = x.toList) : (p.2.toList == y.toList) = decide (p = (x, y)) := by
  obtain ⟨u, v⟩ := p
  have hu : u = x := toList_iff.1 h
  subst hu
  by_cases hv : v = y
  · subst hv; simp
  · rw [decide_eq_false (fun e => hv (Prod.mk.inj e).2)]
    exact beq_eq_false_iff_ne.2 (fun e => hv (toList_iff.1 e))
theorem pair_no (p : ByteArray × ByteArray) (x y : ByteArray) (h : ¬ p.1.toList = x.toList) : false = decide (p = (x, y)) :=
  (decide_eq_false (fun e => h (by rw [e]))).symm

set_option maxRecDepth 100000 in
set_option maxHeartbeats 1200000 in
theorem vext_yes (old root : ByteArray) (n m : Nat) (P : List ByteArray) (a : Option Addr) (c : Nat) (w : World) (ht : Tab w) (hA : StrA w a c P) (hP : P.length < 1000) (hdo : digsB [old, root] = true) (hd : digsB P = true) (h1 : 1 ≤ m) (h2 : m ≤ n) (hn : n < 9223372036854775808) :
    Calls Tryd.prog 26 #[.string old, .int .i64 m, .string root, .int .i64 n, .slice a P.length c] w (BoolEnd (vexB old m root n P) w) := by
  refine (callsIn_wide (n := 6)).1 ?_
  refine callsIn_of_wp_marks Tryd.func26 rfl trivial ?_ rfl
  simp only [Tryd.ntmps26, List.size_toArray, List.length_cons, List.length_nil, Nat.reduceAdd, Nat.reduceSub, Array.replicate_succ, Array.replicate_zero, List.push_toArray, List.append_toArray, List.nil_append, List.cons_append]
  have k1 : decide ((m : Int) < 0) = false := by simp
  have k2 : decide (n < m) = false := by simp; omega
  have k3 : ((m : Int) == 0) = false := by simp; omega
  have hb1 : Below w.heap.size w (w.alloc (.cells #[.string old, .string root] 9)) := (Below.refl _ _).alloc (Nat.le_refl _) _
  have hc1 := digs_any _ 2 [old, root] _ (strA_two w old root)
  have hc2 := digs_any a c P _ (hA.below hb1)
  rw [hdo] at hc1
  rw [hd] at hc2
  have HC1 := Lib.hid hc1
  have HC2 := Lib.hid hc2
  clear hc1 hc2
  gi_wp2_with (first | (refine ⟨trivial, ?_⟩; gi_at_call 38; (first | refine (callsIn_wide.2 HC1.out).mono ?_ | refine (callsIn_wide.2 HC2.out).mono ?_); rintro e w' ⟨rfl, rfl⟩) | (refine ⟨trivial, ?_⟩; gi_at_call 34; refine (edge_in _ _ _ _).mono ?_; rintro e w' ⟨rfl, rfl⟩))
  obtain ⟨W4, hW4⟩ : ∃ V, V = (((((w.alloc (.cells #[.string old, .string root] 9)).alloc (.cells #[.slice none 0 0] 54)).alloc (.cells #[.int .i64 0] 3)).alloc (.cells #[.int .i64 (n : Int)] 3)).alloc (.cells #[.int .i64 (m : Int)] 3)) := ⟨_, rfl⟩
  rw [← hW4]
  have hb4 : Below w.heap.size w W4 := by rw [hW4]; exact (((((Below.refl _ w).alloc (Nat.le_refl _) _).alloc (by simp) _).alloc (by simp; omega) _).alloc (by simp; omega) _).alloc (by simp; omega) _
  have hs4 : W4.heap.size = w.heap.size + 5 := by rw [hW4]; simp
  have b1 : Boxed W4 (w.heap.size + 1) 54 (.slice none 0 0) := by
    rw [hW4]
    have := Boxed.new (w.alloc (.cells #[.string old, .string root] 9)) 54 (.slice none 0 0)
    rw [World.size_alloc] at this
    exact ((this.alloc _).alloc _).alloc _
  have b2 : Boxed W4 (w.heap.size + 1 + 1) 3 (.int .i64 0) := by
    rw [hW4]
    have := Boxed.new ((w.alloc (.cells #[.string old, .string root] 9)).alloc (.cells #[.slice none 0 0] 54)) 3 (.int .i64 0)
    rw [World.size_alloc, World.size_alloc] at this
    exact (this.alloc _).alloc _
  have b3 : Boxed W4 (w.heap.size + 1 + 1 + 1) 3 (.int .i64 (n : Int)) := by
    rw [hW4]
    have := Boxed.new (((w.alloc (.cells #[.string old, .string root] 9)).alloc (.cells #[.slice none 0 0] 54)).alloc (.cells #[.int .i64 0] 3)) 3 (.int .i64 (n : Int))
    rw [World.size_alloc, World.size_alloc, World.size_alloc] at this
    exact this.alloc _
  have b4 : Boxed W4 (w.heap.size + 1 + 1 + 1 + 1) 3 (.int .i64 (m : Int)) := by
    rw [hW4]
    have := Boxed.new ((((w.alloc (.cells #[.string old, .string root] 9)).alloc (.cells #[.slice none 0 0] 54)).alloc (.cells #[.int .i64 0] 3)).alloc (.cells #[.int .i64 (n : Int)] 3)) 3 (.int .i64 (m : Int))
    rw [World.size_alloc, World.size_alloc, World.size_alloc, World.size_alloc] at this
    exact this
  clear hW4 hb1
  have HTA := Lib.hid (And.intro ht hA)
  have HD := Lib.hid (And.intro hdo hd)
  clear ht hA hdo hd k1 k2 k3 HC1 HC2
  refine wpIn_rangeFunc_far rfl (by omega) (gf := 49) (lb := #[.pointer (some ⟨w.heap.size + 1 + 1 + 1, 0, none⟩), .pointer (some ⟨w.heap.size + 1 + 1 + 1 + 1, 0, none⟩)]) rfl trivial (enters_of Tryd.func49 (by kernel_rfl) rfl)
    (edge_stops 5 (w.heap.size + 1 + 1 + 1) (w.heap.size + 1 + 1 + 1 + 1) n m (by omega) hn h1 h2 W4 b3.cell b4.cell) (Below.refl _ _) (fun _ => rfl)
    (fun bnd (pre : List (FkN n)) W => (∃ v, Boxed W (w.heap.size + 1) 54 v ∧ W.ownsRow (W4.heap.size + 7) 49 4 v pre.length (flatF (pre.map (·.1))) ∧ (∀ k, v.ownBlock = some k → k < bnd) ∧ W4.heap.size ≤ bnd) ∧ Boxed W (w.heap.size + 1 + 1) 3 (.int .i64 (nextOf 0 (pre.map (·.1)) : Nat)) ∧ Below w.heap.size w W)
    (fun _ _ _ => False)
    (fun bnd => OwnFrom.and (Own.from (holdsRow_own (W4.heap.size + 7) (w.heap.size + 1) 54 49 4 (fun pre : List (FkN n) => pre.length) (fun pre => flatF (pre.map (·.1))) (fun _ v => (∀ k, v.ownBlock = some k → k < bnd) ∧ W4.heap.size ≤ bnd)) _)
      (OwnFrom.and (Own.from (boxed_own (w.heap.size + 1 + 1) 3 (fun pre : List (FkN n) => .int .i64 (nextOf 0 (pre.map (·.1)) : Nat))) _) (ownFrom_below (Nat.le_refl _) (by omega))))
    (fun _ _ _ _ _ hs _ _ => hs)
    ⟨⟨_, b1, World.ownsRow_nil _ _ _ _, (fun k e => by cases e), Nat.le_refl _⟩, b2, hb4⟩
    (fun U (x : FkN n) a' W => ∃ Bb : Nat, U.heap.size ≤ Bb ∧ W.heap[Bb]? = some (.cells (fkC x.1) 49 (0, 0)) ∧ (∀ (j : Nat) (o : Obj), U.heap[j]? = some o → o.isCells = true → W.heap[j]? = some o) ∧ a' = { tmps := #[.string old, .int .i64 (m : Nat), .string root, .int .i64 (n : Nat), .slice a P.length c, undef, undef, undef, undef, undef, .bool false, .pointer (some ⟨w.heap.size + 1, 0, none⟩), .pointer (some ⟨w.heap.size + 1 + 1, 0, none⟩), .pointer (some ⟨Bb, 0, none⟩), undef, undef, undef, undef, undef, undef, .int .i64 (m : Nat), .bool false, .bool false, .int .i64 (m : Nat), .int .i64 (n : Nat), .bool false, .bool false, .bool false, .string old, .string root, .slice (some ⟨w.heap.size, 0, none⟩) 2 2, .bool true, .bool false, .bool false, .bool false, .slice a P.length c, .bool true, .bool false, .bool false, .int .i64 (m : Nat), .bool false, undef, undef, undef, undef, undef, undef, undef, undef, .int .i64 (n : Nat), .int .i64 (m : Nat), .func (.func 49) #[] #[.pointer (some ⟨w.heap.size + 1 + 1 + 1, 0, none⟩), .pointer (some ⟨w.heap.size + 1 + 1 + 1 + 1, 0, none⟩)], fkV x.1, undef, undef, undef, undef, undef, undef, undef, undef, undef, undef, undef, undef, undef, undef, undef, undef, undef, undef, undef, undef, undef, undef, undef, undef, undef, undef, undef, undef, undef, undef, undef, undef, undef, undef, undef, undef, undef, undef, undef, undef, undef, undef, undef, undef, undef, undef, undef, undef, undef, undef, undef, undef, undef, undef, undef, undef, undef, undef, undef, undef], defers := [] })
    (fun U x a' u A B row hs hg hr => by
      obtain ⟨Bb, h1, h2, h3, h4⟩ := hs
      have keep : ∀ (j : Nat) (o : Obj), A.heap[j]? = some o → o.isCells = true → B.heap[j]? = some o := fun j o hj ho => (hg.block _ (Array.getElem?_eq_some_iff.1 hj).1 (fun e => by
        obtain ⟨_, o', ho', hc⟩ := hr _ e.symm
        rw [hj] at ho'; cases ho'; rw [ho] at hc; cases hc)).trans hj
      exact ⟨Bb, h1, keep _ _ h2 rfl, fun j o hj ho => keep _ _ (h3 j o hj ho) ho, h4⟩)
    ?assign ?body ?done ?stop
  case assign =>
    rintro l bnd pre ⟨⟨f1, f2, f3, f4⟩, hwi⟩ U K hbk ⟨⟨v, hv, hrow, hlt, hu4⟩, hbn, hbel⟩ hK
    unfold fkV at hK ⊢
    unfold fkC at hK
    gi_wp2
    refine hK _ _ ((KeepsOthers.alloc _ _).from _) ⟨⟨v, hv.alloc _, hrow.alloc _, hlt, hu4⟩, hbn.alloc _, hbel.alloc hbel.size _⟩ ⟨U.heap.size, Nat.le_refl _, heap_alloc_new _ _, fun j o hj _ => (heap_alloc_old _ _ (Array.getElem?_eq_some_iff.1 hj).1).trans hj, rfl⟩
  case body =>
    rintro l bnd pre ⟨⟨f1, f2, f3, f4⟩, hwi⟩ U a' W hbk hsq ⟨⟨v, hv, hrow, hlt, hu4⟩, hbn, hbel⟩ ⟨Bb, hBb, hcb, hkeep, rfl⟩ hlen _ _
    have hBW := (Array.getElem?_eq_some_iff.1 hcb).1
    have hUW : U.heap.size ≤ W.heap.size := by omega
    have hc1 := hv.cell
    have hf1 := hv.frozen
    have g0 : W.cell? ⟨Bb, 0, none⟩ = some (.int .i64 f1) := cell_of_row W _ 0 _ _ _ hcb
    have g1 : W.cell? ⟨Bb, 1, none⟩ = some (.int .i64 f2) := cell_of_row W _ 1 _ _ _ hcb
    have g2 : W.cell? ⟨Bb, 2, none⟩ = some (.int .i64 f3) := cell_of_row W _ 2 _ _ _ hcb
    have g3 : W.cell? ⟨Bb, 3, none⟩ = some (.bool f4) := cell_of_row W _ 3 _ _ _ hcb
    obtain ⟨i0, hi0, hz0, hz1, hz2⟩ := info_parts info_fork
    have hvl : ∀ k, v.ownBlock = some k → W4.heap.size + 7 ≤ k ∧ k < W.heap.size := hrow.lt
    have HVL := Lib.hid hvl
    have HLT := Lib.hid hlt
    have HKP := Lib.hid hkeep
    have HCB := Lib.hid hcb
    have HBN := Lib.hid hbn
    have HNX := Lib.hid (fun V => next_any ⟨f1, f2, f3, f4⟩ V)
    clear hvl hlt hkeep hcb hbn
    gi_wp2_with (gi_at_builtin; refine wpListIn_append_own _ rfl _ _ 54 rfl (W4.heap.size + 7) 49 i0 (.agg #[.int .i64 0, .int .i64 0, .int .i64 0, .bool false]) 4 32 Tryd.underlying54 hi0 hz0 hz1 hz2 rfl (by decide) _ _ _ rfl (hrow.alloc _) ⟨W.heap.size, 0, none⟩ 1 1 [.int .i64 f1, .int .i64 f2, .int .i64 f3, .bool f4] rfl rfl (World.news_of_block (cs := #[.int .i64 f1, .int .i64 f2, .int .i64 f3, .bool f4]) (t := 49) (fr := (0, 0)) (heap_alloc_new W _)) (by simp [Value.oneCell']) (by unfold maxLen; omega) (by omega) (by simp; omega) ?_; intro v' w6 ho6 hg6 _; obtain ⟨g9, cap9, rfl⟩ := ownsRow_succ ho6; have hv6 := box_kept hv HVL.out (by omega) hg6; have hc6 := hv6.cell; have hf6 := hv6.frozen; have hp6 := app_of (by omega) HVL.out hg6; have hcb6 : (w6.setCell ⟨w.heap.size + 1, 0, none⟩ (.slice (some ⟨g9, 0, none⟩) (pre.length + 1) cap9)).heap[Bb]? = some (.cells (fkC ⟨f1, f2, f3, f4⟩) 49 (0, 0)) := (heap_setCell_other w6 ⟨w.heap.size + 1, 0, none⟩ Bb _ (by show Bb ≠ w.heap.size + 1; omega)).trans ((hp6.2 Bb hBW (fun e => by have := HLT.out _ e.symm; omega)).trans HCB.out); have x0 : (w6.setCell ⟨w.heap.size + 1, 0, none⟩ (.slice (some ⟨g9, 0, none⟩) (pre.length + 1) cap9)).cell? ⟨Bb, 0, none⟩ = some (.int .i64 f1) := cell_of_row _ Bb 0 _ _ _ hcb6; have x1 : (w6.setCell ⟨w.heap.size + 1, 0, none⟩ (.slice (some ⟨g9, 0, none⟩) (pre.length + 1) cap9)).cell? ⟨Bb, 1, none⟩ = some (.int .i64 f2) := cell_of_row _ Bb 1 _ _ _ hcb6; have x2 : (w6.setCell ⟨w.heap.size + 1, 0, none⟩ (.slice (some ⟨g9, 0, none⟩) (pre.length + 1) cap9)).cell? ⟨Bb, 2, none⟩ = some (.int .i64 f3) := cell_of_row _ Bb 2 _ _ _ hcb6; have x3 : (w6.setCell ⟨w.heap.size + 1, 0, none⟩ (.slice (some ⟨g9, 0, none⟩) (pre.length + 1) cap9)).cell? ⟨Bb, 3, none⟩ = some (.bool f4) := cell_of_row _ Bb 3 _ _ _ hcb6; have HG6 := Lib.hid (And.intro hp6 (And.intro ho6 hv6)); clear hp6 hcb6 hg6)
    refine ⟨trivial, (CallsIn.inRound l (callsIn_wide.2 (HNX.out _))).mono ?_⟩
    rintro e V2 ⟨rfl, hb2⟩
    obtain ⟨⟨p1, p2⟩, ho6, hv6⟩ := HG6.out
    obtain ⟨V1, hV1⟩ : ∃ X, X = w6.setCell ⟨w.heap.size + 1, 0, none⟩ (.slice (some ⟨g9, 0, none⟩) (pre.length + 1) cap9) := ⟨_, rfl⟩
    have hs1 : V1.heap.size = w6.heap.size := by rw [hV1]; simp
    rw [← hV1] at hb2
    have hsz := p1.size
    have hbn2 : Boxed V2 (w.heap.size + 1 + 1) 3 (.int .i64 (nextOf 0 (pre.map (·.1)) : Nat)) := (hb2.block (w.heap.size + 1 + 1) (by omega)).trans (by
      rw [hV1]
      exact (heap_setCell_other w6 ⟨w.heap.size + 1, 0, none⟩ _ _ (by show w.heap.size + 1 + 1 ≠ w.heap.size + 1; omega)).trans ((p2 _ (by omega) (fun e => by have := (HVL.out _ e.symm).1; omega)).trans HBN.out))
    have q1 := hbn2.cell
    have q2 := hbn2.frozen
    clear g0 g1 g2 g3 x0 x1 x2 x3 hc1 hf1 hc6 hf6
    have hs2 := hb2.size
    gi_wp2
    have hV1j : ∀ (j : Nat) (o : Obj), j ≠ w.heap.size + 1 → some j ≠ v.ownBlock → W.heap[j]? = some o → V1.heap[j]? = some o := fun j o hj1 hj2 ho => by
      rw [hV1]
      exact (heap_setCell_other w6 ⟨w.heap.size + 1, 0, none⟩ j _ hj1).trans ((p2 j (Array.getElem?_eq_some_iff.1 ho).1 hj2).trans ho)
    have hput : ∀ (j : Nat) (o : Obj), j ≠ w.heap.size + 1 + 1 → V1.heap[j]? = some o → (V2.setCell ⟨w.heap.size + 1 + 1, 0, none⟩ (.int .i64 (Fk.next ⟨f1, f2, f3, f4⟩ : Nat))).heap[j]? = some o := fun j o hj ho =>
      (heap_setCell_other V2 ⟨w.heap.size + 1 + 1, 0, none⟩ j _ hj).trans ((hb2.block j (Array.getElem?_eq_some_iff.1 ho).1).trans ho)
    have hrow1 : V1.ownsRow (W4.heap.size + 7) 49 4 (.slice (some ⟨g9, 0, none⟩) (pre.length + 1) cap9) (pre.length + 1) (flatF (pre.map (·.1)) ++ [.int .i64 f1, .int .i64 f2, .int .i64 f3, .bool f4]) := by
      rw [hV1]
      exact World.ownsRow.kept ho6 (grownBy_setCell' w6 (w.heap.size + 1) _) (.inr (fun e => by have := (ho6.lt _ e).1; omega))
    have hl1 := hrow1.lt
    refine ⟨⟨by simp; omega, fun j o hj ho hc => hput j o (by omega) (hV1j j o (by omega) (fun e => ?_) ho)⟩, ⟨by simp; omega, fun j o hj ho hc => ?_⟩, ⟨_, hput _ _ (by omega) (by rw [hV1]; exact hv6.set _), ?_, (fun k e => by have := (hl1 k e).2; simp; omega), by simp; omega⟩, ?_, ?_⟩
    · obtain ⟨cs, fz, hcs⟩ := Lib.ownsRow_kind hrow j e.symm
      rw [hcs] at ho; cases ho; cases hc
    · have hjj : j ≠ w.heap.size + 1 + 1 ∧ j ≠ w.heap.size + 1 ∧ some j ≠ v.ownBlock := by
        rcases hj with (rfl | ⟨z1, z2⟩) | hj
        · exact ⟨by omega, by omega, fun e => by have := (HVL.out _ e.symm).1; omega⟩
        · exact ⟨by omega, by omega, fun e => by have := (HVL.out _ e.symm).1; omega⟩
        · exact ⟨by omega, by omega, fun e => by have := HLT.out _ e.symm; omega⟩
      exact hput j o hjj.1 (hV1j j o hjj.2.1 hjj.2.2 (HKP.out j o ho hc))
    · rw [List.map_append, List.length_append]
      show World.ownsRow _ _ _ _ _ (pre.length + 1) (flatF (pre.map (·.1) ++ [⟨f1, f2, f3, f4⟩]))
      rw [flatF_snoc]
      have hrow2 := World.ownsRow.kept hrow1 (grownBy_of_below hb2) (.inr (fun e => by cases e))
      exact World.ownsRow.kept hrow2 (grownBy_setCell' V2 (w.heap.size + 1 + 1) _) (.inr (fun e => by have := (hl1 _ e).1; omega))
    · rw [List.map_append]
      show Boxed _ _ _ (.int .i64 (nextOf 0 (pre.map (·.1) ++ [⟨f1, f2, f3, f4⟩]) : Nat))
      rw [nextOf_snoc]
      exact hbn2.set _
    · have hbV1 : Below w.heap.size w V1 := by rw [hV1]; exact (hbel.trans (p1.mono (by omega))).setCell (p := ⟨w.heap.size + 1, 0, none⟩) (by simp) _
      exact (below_step hbV1 hb2).setCell (p := ⟨w.heap.size + 1 + 1, 0, none⟩) (by simp; omega) _
  case done =>
    rintro D bnd xs W hD hbW hS ⟨⟨v, hv, hrow, hlt, hu4⟩, hbn, hbel⟩ hK
    have hN : xs.length = (edgeF 64 0 n m).length := by rw [← hS, List.length_map]
    have hN64 := edgeF_length 64 0 n m
    rw [hS] at hrow hbn
    have hforms := fkFn_of_row hrow hN.symm
    have hval := both_edge old 64 0 n m true P.reverse (by omega) h2 (by omega)
    have hne := next_edge 64 0 n m (by omega) h2 (by omega)
    rw [Nat.sub_zero, Nat.sub_zero, Bool.true_and] at hval
    have hDW := (Array.getElem?_eq_some_iff.1 hK).1
    have hvc := hv.cell
    have hnc := hbn.cell
    have hvl : ∀ k, v.ownBlock = some k → W4.heap.size + 7 ≤ k ∧ k < W.heap.size := hrow.lt
    have hvD : ∀ k, v.ownBlock = some k → k ≠ D := fun k e hk => by
      subst hk
      obtain ⟨cs, fz, hcs⟩ := Lib.ownsRow_kind hrow k e
      rw [hK] at hcs; cases hcs
    have hvB : ∀ bv : Bool, BoolEnd bv w (.returned (.bool bv)) (W.putObj D (.deferred none)) := fun bv => ⟨rfl, hbel.trans (belowK_b (w := w) (Nat.le_refl _) W D _ _ (by omega) hK rfl rfl)⟩
    obtain ⟨fs, hfs⟩ : ∃ fs, fs = edgeF 64 0 n m := ⟨_, rfl⟩
    rw [← hfs] at hforms hval hN hN64 hne hbn hnc
    have hN6 : xs.length ≤ 64 := by omega
    clear hS hrow hlt hu4 hfs
    generalize xs.length = q at *
    subst hN
    obtain ⟨A, cap, rfl⟩ : ∃ A cap, v = .slice A fs.length cap := by
      rcases hforms with ⟨e, e0⟩ | ⟨g, cap, e, _⟩
      · exact ⟨none, 0, by rw [e, e0]⟩
      · exact ⟨_, _, e⟩
    have hnx := hne.2
    clear hne
    generalize nextOf 0 fs = nx at *
    rcases hnx with ⟨hnx, hla⟩ | ⟨hnx, hla⟩
    · rw [hla, if_pos rfl, List.length_reverse] at hval
      subst hnx
      have hnI : decide ((0 : Int) < ((0 : Nat) : Int)) = false := by simp
      by_cases hlen : P.length = fs.length
      · have hlen' : ((P.length : Int) != (fs.length : Int)) = false := by simp; omega
        have hlen'' : ((P.length : Int) == (fs.length : Int)) = true := by simp; omega
        have hcl : vexB old m root n P = decide (climb2 old fs P.reverse = (old, root)) := by
          unfold vexB
          rw [hval, if_pos (by omega)]
          simp
        have hRK : ∀ (j : Nat) (hj : j < fs.length), P.reverse[fs.length - 1 - j]'(by rw [List.length_reverse]; omega) = P[j]'(by omega) := fun j hj => by
          rw [List.getElem_reverse]
          congr 1
          omega
        have hQA := HTA.out.2
        have hQD := digsB_true.1 HD.out.2
        have hd32 : old.size = 32 := digsB_true.1 HD.out.1 old (by simp)
        have HR := Lib.hid (reverseF_own (by omega) hforms)
        have HV := Lib.hid (And.intro hvl hvD)
        have HH := Lib.hid (And.intro hv (And.intro hbel hK))
        have HC0 := Lib.hid (climb2K_zero old fs P.reverse)
        have HCL := Lib.hid hcl
        have HRK := Lib.hid hRK
        have HQA := Lib.hid hQA
        have HQD := Lib.hid hQD
        clear hforms hvl hvD hv hbel hK hN64 hcl hRK hvB hval hbn hQA hQD
        gi_wp2
        refine ⟨trivial, ?_⟩
        with_reducible refine (callsIn_wide.2 HR.out).mono ?_
        rintro e V ⟨rfl, hrev, hg⟩
        have hvV : Boxed V (w.heap.size + 1) 54 (.slice A fs.length cap) := HH.out.1.kept hg (fun e => by have := (HV.out.1 _ e.symm).1; omega)
        have hKV : V.heap[D]? = some (.deferred (some [])) := (hg.block D hDW (fun e => HV.out.2 _ e.symm rfl)).trans HH.out.2.2
        have hbV : Below w.heap.size w V := HH.out.2.1.grown hg (by have := HH.out.2.1.size; omega) (fun k e => by have := (HV.out.1 k e).1; omega)
        have hvVc := hvV.cell
        have hX2 : ((fs.length = 0 ∨ ∃ g, A = some ⟨g, 0, none⟩ ∧ cap ≤ maxLen ∧ fs.length ≤ cap ∧ FkFn V g fs.length (fun p => fs.getD (fs.length - 1 - p) ⟨0, 0, 0, false⟩)) ∧ V.heap[D]? = some (.deferred (some [])) ∧ Below w.heap.size w V) := by
          refine ⟨?_, hKV, hbV⟩
          rcases hrev with e0 | ⟨g, q1, q2, q3, q4, q5, q6⟩
          · exact .inl e0
          · exact .inr ⟨g, q1, q4, q5, q6⟩
        have HX2 := Lib.hid hX2
        clear hrev hg hKV hbV hvc hvV hX2
        gi_wp2
        obtain ⟨W5, hW5⟩ : ∃ X, X = V := ⟨_, rfl⟩
        rw [← hW5] at HX2 ⊢
        clear hW5 hvVc
        gi_loopw [16, 17, 82] (fun x y t wr => ∃ k : Nat, k ≤ fs.length ∧ t = .int .i64 k ∧ x = .string (climb2K old fs P.reverse k).1 ∧ y = .string (climb2K old fs P.reverse k).2 ∧ ((fs.length = 0 ∨ ∃ g, A = some ⟨g, 0, none⟩ ∧ cap ≤ maxLen ∧ fs.length ≤ cap ∧ FkFn wr g fs.length (fun p => fs.getD (fs.length - 1 - p) ⟨0, 0, 0, false⟩)) ∧ wr.heap[D]? = some (.deferred (some [])) ∧ Below w.heap.size w wr)) (fun _ _ t _ => fs.length - (intOf t).toNat)
        case atStart => exact ⟨0, by omega, rfl, by rw [HC0.out], by rw [HC0.out], HX2.out⟩
        case round =>
          clear HX2
          obtain ⟨k, hk, rfl, rfl, rfl, hX⟩ := hrel
          have HX := Lib.hid hX
          clear hX
          by_cases hkN : k < fs.length
          · obtain ⟨hX1, hX3, hX4⟩ := HX.out
            obtain ⟨g, rfl, hm, hcx, hF⟩ : ∃ g, A = some ⟨g, 0, none⟩ ∧ cap ≤ maxLen ∧ fs.length ≤ cap ∧ FkFn wr g fs.length (fun p => fs.getD (fs.length - 1 - p) ⟨0, 0, 0, false⟩) := by
              rcases hX1 with e | h
              · omega
              · exact h
            obtain ⟨pb, po, hpa, pl, pc⟩ := (HQA.out.below hX4).2.2 k (by omega)
            have hkQ : k < (P).length := by omega
            have hsucc := climb2K_succ old fs P.reverse k (by omega) (by rw [List.length_reverse]; omega)
            rw [HRK.out k (by omega)] at hsucc
            have hfk : fs.getD (fs.length - 1 - k) ⟨0, 0, 0, false⟩ = fs[fs.length - 1 - k]'(by omega) := by
              rw [List.getD, List.getElem?_eq_getElem (by omega)]
              simp only [Option.getD_some]
            rw [← hfk] at hsucc
            have hp32 : (P)[k].size = 32 := HQD.out _ (List.getElem_mem hkQ)
            have hc32 := climb2_size old hd32 (fs.drop (fs.length - k)) (P.reverse.drop (fs.length - k))
            have hc32' : (climb2K old fs P.reverse k).1.size = 32 ∧ (climb2K old fs P.reverse k).2.size = 32 := hc32
            obtain ⟨hy1, hy2⟩ := hc32'
            obtain ⟨g0, g1, g2, g3⟩ := hF.cells k hkN
            have hgl := hF.lt
            have hTw : Tab wr := HTA.out.1.below hX4
            have HSU := Lib.hid hsucc
            clear hsucc hfk hc32 hF
            generalize hf9 : fs.getD (fs.length - 1 - k) ⟨0, 0, 0, false⟩ = f9 at *
            have HF9 := Lib.hid hf9
            clear hf9
            generalize (P)[k] = x at *
            generalize climb2K old fs P.reverse k = y at *
            obtain ⟨y1, y2⟩ := y
            simp only at hy1 hy2
            have hkI : (k : Int) < (fs.length : Int) := by omega
            have hkP' : (k : Int) < ((P).length : Int) := by omega
            have hpc : (wr.alloc (.cells (fkC f9) 49)).cell? ⟨pb, po + k, none⟩ = some (.string x) := (((Below.refl wr.heap.size wr).alloc (Nat.le_refl _) _).cell (p := ⟨pb, po + k, none⟩) pl).trans pc
            obtain ⟨f1, f2, f3, f4⟩ := f9
            unfold fkC at hpc
            subst hpa
            cases f4
            · simp only at hpc g3
              have hb9 : Below wr.heap.size wr (wr.alloc (.cells #[.int .i64 (f1 : Int), .int .i64 (f2 : Int), .int .i64 (f3 : Int), .bool false] 49)) := (Below.refl _ _).alloc (Nat.le_refl _) _
              have HJ := Lib.hid (fun V (z : ByteArray) (h : Below wr.heap.size wr V) (hz : z.size = 32) => join_any ⟨f1, f2, f3, false⟩ z x V (hTw.below h) (by omega) (by omega))
              have HB9 := Lib.hid hb9
              unfold fkV at HJ
              clear hp32 hTw hb9 hX1
              gi_wp2
              refine wpIn_wide.2 ?_
              have h0 : Below wr.heap.size wr ((wr.alloc (.cells #[.int .i64 (f1 : Int), .int .i64 (f2 : Int), .int .i64 (f3 : Int), .bool false] 49)).drew) := HB9.out.drew
              have hnew : ∀ j, (wr.alloc (.cells #[.int .i64 (f1 : Int), .int .i64 (f2 : Int), .int .i64 (f3 : Int), .bool false] 49)).drew.cell? ⟨wr.heap.size, j, none⟩ = #[Value.int .i64 (f1 : Int), .int .i64 (f2 : Int), .int .i64 (f3 : Int), .bool false][j]? := fun j => cell_of_row _ _ j _ _ _ (heap_alloc_new wr _)
              have hS0 : (Below wr.heap.size wr ((wr.alloc (.cells #[.int .i64 (f1 : Int), .int .i64 (f2 : Int), .int .i64 (f3 : Int), .bool false] 49)).drew) ∧ ((wr.alloc (.cells #[.int .i64 (f1 : Int), .int .i64 (f2 : Int), .int .i64 (f3 : Int), .bool false] 49)).drew).cell? ⟨pb, po + k, none⟩ = some (.string x) ∧ ((wr.alloc (.cells #[.int .i64 (f1 : Int), .int .i64 (f2 : Int), .int .i64 (f3 : Int), .bool false] 49)).drew).cell? ⟨wr.heap.size, 0, none⟩ = some (.int .i64 (f1 : Int)) ∧ ((wr.alloc (.cells #[.int .i64 (f1 : Int), .int .i64 (f2 : Int), .int .i64 (f3 : Int), .bool false] 49)).drew).cell? ⟨wr.heap.size, 1, none⟩ = some (.int .i64 (f2 : Int)) ∧ ((wr.alloc (.cells #[.int .i64 (f1 : Int), .int .i64 (f2 : Int), .int .i64 (f3 : Int), .bool false] 49)).drew).cell? ⟨wr.heap.size, 2, none⟩ = some (.int .i64 (f3 : Int)) ∧ ((wr.alloc (.cells #[.int .i64 (f1 : Int), .int .i64 (f2 : Int), .int .i64 (f3 : Int), .bool false] 49)).drew).cell? ⟨wr.heap.size, 3, none⟩ = some (.bool false)) := ⟨h0, hpc, hnew 0, hnew 1, hnew 2, hnew 3⟩
              have hcar : ∀ W W' : World, (Below wr.heap.size wr W ∧ W.cell? ⟨pb, po + k, none⟩ = some (.string x) ∧ W.cell? ⟨wr.heap.size, 0, none⟩ = some (.int .i64 (f1 : Int)) ∧ W.cell? ⟨wr.heap.size, 1, none⟩ = some (.int .i64 (f2 : Int)) ∧ W.cell? ⟨wr.heap.size, 2, none⟩ = some (.int .i64 (f3 : Int)) ∧ W.cell? ⟨wr.heap.size, 3, none⟩ = some (.bool false)) → Below W.heap.size W W' → (Below wr.heap.size wr W' ∧ W'.cell? ⟨pb, po + k, none⟩ = some (.string x) ∧ W'.cell? ⟨wr.heap.size, 0, none⟩ = some (.int .i64 (f1 : Int)) ∧ W'.cell? ⟨wr.heap.size, 1, none⟩ = some (.int .i64 (f2 : Int)) ∧ W'.cell? ⟨wr.heap.size, 2, none⟩ = some (.int .i64 (f3 : Int)) ∧ W'.cell? ⟨wr.heap.size, 3, none⟩ = some (.bool false)) := fun W W' h hb =>
                have q := fun (p : Addr) (u : Value) (hc : W.cell? p = some u) => (hb.cell (p := p) (block_lt_of_cell hc)).trans hc
                ⟨below_step h.1 hb, q _ _ h.2.1, q _ _ h.2.2.1, q _ _ h.2.2.2.1, q _ _ h.2.2.2.2.1, q _ _ h.2.2.2.2.2⟩
              have HCAR := Lib.hid hcar
              have HS0 := Lib.hid hS0
              clear hcar hS0 hnew h0 hpc
              go_region_held3 (fun w' => Below wr.heap.size wr w' ∧ w'.cell? ⟨pb, po + k, none⟩ = some (.string x) ∧ w'.cell? ⟨wr.heap.size, 0, none⟩ = some (.int .i64 (f1 : Int)) ∧ w'.cell? ⟨wr.heap.size, 1, none⟩ = some (.int .i64 (f2 : Int)) ∧ w'.cell? ⟨wr.heap.size, 2, none⟩ = some (.int .i64 (f3 : Int)) ∧ w'.cell? ⟨wr.heap.size, 3, none⟩ = some (.bool false)) (first | exact HS0.out | exact HCAR.out _ _ (by assumption) hb8) ((go_at_call 40; refine (HJ.out _ _ (And.left (by assumption)) (by assumption)).mono ?_; rintro e W8 ⟨rfl, hb8⟩))
              gi_wp2
              rename_i hHeld
              obtain ⟨W6, hW6⟩ : ∃ X, X = W8 := ⟨_, rfl⟩
              refine wpIn_wide.2 ?_
              have HS1 := Lib.hid (HCAR.out _ _ hHeld ((Below.refl _ _).drew))
              clear HS0
              go_region_held3 (fun w' => Below wr.heap.size wr w' ∧ w'.cell? ⟨pb, po + k, none⟩ = some (.string x) ∧ w'.cell? ⟨wr.heap.size, 0, none⟩ = some (.int .i64 (f1 : Int)) ∧ w'.cell? ⟨wr.heap.size, 1, none⟩ = some (.int .i64 (f2 : Int)) ∧ w'.cell? ⟨wr.heap.size, 2, none⟩ = some (.int .i64 (f3 : Int)) ∧ w'.cell? ⟨wr.heap.size, 3, none⟩ = some (.bool false)) (first | exact HS1.out | exact HCAR.out _ _ (by assumption) hb8) ((go_at_call 40; refine (HJ.out _ _ (And.left (by assumption)) (by assumption)).mono ?_; rintro e W8 ⟨rfl, hb8⟩))
              gi_wp2
              rename_i hHeld
              have hB8 := hHeld.1
              refine ⟨⟨k + 1, by omega, by simp, (congrArg (fun p : ByteArray × ByteArray => Value.string p.1) HSU.out).symm, (congrArg (fun p : ByteArray × ByteArray => Value.string p.2) HSU.out).symm, ?_, (hB8.block D (Array.getElem?_eq_some_iff.1 hX3).1).trans hX3, below_step hX4 hB8⟩, by simp [intOf]; omega⟩
              rcases HX.out.1 with e0 | ⟨g', e1, q1, q2, q3⟩
              · exact .inl e0
              · exact .inr ⟨g', e1, q1, q2, q3.kept (hB8.block g' q3.lt)⟩
            · simp only at hpc g3
              have hb9 : Below wr.heap.size wr (wr.alloc (.cells #[.int .i64 (f1 : Int), .int .i64 (f2 : Int), .int .i64 (f3 : Int), .bool true] 49)) := (Below.refl _ _).alloc (Nat.le_refl _) _
              have HJ := Lib.hid (fun V (z : ByteArray) (h : Below wr.heap.size wr V) (hz : z.size = 32) => join_any ⟨f1, f2, f3, true⟩ z x V (hTw.below h) (by omega) (by omega))
              have HB9 := Lib.hid hb9
              unfold fkV at HJ
              clear hp32 hTw hb9 hX1
              gi_wp2
              refine wpIn_wide.2 ?_
              have h0 : Below wr.heap.size wr ((wr.alloc (.cells #[.int .i64 (f1 : Int), .int .i64 (f2 : Int), .int .i64 (f3 : Int), .bool true] 49)).drew) := HB9.out.drew
              have hnew : ∀ j, (wr.alloc (.cells #[.int .i64 (f1 : Int), .int .i64 (f2 : Int), .int .i64 (f3 : Int), .bool true] 49)).drew.cell? ⟨wr.heap.size, j, none⟩ = #[Value.int .i64 (f1 : Int), .int .i64 (f2 : Int), .int .i64 (f3 : Int), .bool true][j]? := fun j => cell_of_row _ _ j _ _ _ (heap_alloc_new wr _)
              have hS0 : (Below wr.heap.size wr ((wr.alloc (.cells #[.int .i64 (f1 : Int), .int .i64 (f2 : Int), .int .i64 (f3 : Int), .bool true] 49)).drew) ∧ ((wr.alloc (.cells #[.int .i64 (f1 : Int), .int .i64 (f2 : Int), .int .i64 (f3 : Int), .bool true] 49)).drew).cell? ⟨pb, po + k, none⟩ = some (.string x) ∧ ((wr.alloc (.cells #[.int .i64 (f1 : Int), .int .i64 (f2 : Int), .int .i64 (f3 : Int), .bool true] 49)).drew).cell? ⟨wr.heap.size, 0, none⟩ = some (.int .i64 (f1 : Int)) ∧ ((wr.alloc (.cells #[.int .i64 (f1 : Int), .int .i64 (f2 : Int), .int .i64 (f3 : Int), .bool true] 49)).drew).cell? ⟨wr.heap.size, 1, none⟩ = some (.int .i64 (f2 : Int)) ∧ ((wr.alloc (.cells #[.int .i64 (f1 : Int), .int .i64 (f2 : Int), .int .i64 (f3 : Int), .bool true] 49)).drew).cell? ⟨wr.heap.size, 2, none⟩ = some (.int .i64 (f3 : Int)) ∧ ((wr.alloc (.cells #[.int .i64 (f1 : Int), .int .i64 (f2 : Int), .int .i64 (f3 : Int), .bool true] 49)).drew).cell? ⟨wr.heap.size, 3, none⟩ = some (.bool true)) := ⟨h0, hpc, hnew 0, hnew 1, hnew 2, hnew 3⟩
              have hcar : ∀ W W' : World, (Below wr.heap.size wr W ∧ W.cell? ⟨pb, po + k, none⟩ = some (.string x) ∧ W.cell? ⟨wr.heap.size, 0, none⟩ = some (.int .i64 (f1 : Int)) ∧ W.cell? ⟨wr.heap.size, 1, none⟩ = some (.int .i64 (f2 : Int)) ∧ W.cell? ⟨wr.heap.size, 2, none⟩ = some (.int .i64 (f3 : Int)) ∧ W.cell? ⟨wr.heap.size, 3, none⟩ = some (.bool true)) → Below W.heap.size W W' → (Below wr.heap.size wr W' ∧ W'.cell? ⟨pb, po + k, none⟩ = some (.string x) ∧ W'.cell? ⟨wr.heap.size, 0, none⟩ = some (.int .i64 (f1 : Int)) ∧ W'.cell? ⟨wr.heap.size, 1, none⟩ = some (.int .i64 (f2 : Int)) ∧ W'.cell? ⟨wr.heap.size, 2, none⟩ = some (.int .i64 (f3 : Int)) ∧ W'.cell? ⟨wr.heap.size, 3, none⟩ = some (.bool true)) := fun W W' h hb =>
                have q := fun (p : Addr) (u : Value) (hc : W.cell? p = some u) => (hb.cell (p := p) (block_lt_of_cell hc)).trans hc
                ⟨below_step h.1 hb, q _ _ h.2.1, q _ _ h.2.2.1, q _ _ h.2.2.2.1, q _ _ h.2.2.2.2.1, q _ _ h.2.2.2.2.2⟩
              have HCAR := Lib.hid hcar
              have HS0 := Lib.hid hS0
              clear hcar hS0 hnew h0 hpc
              go_region_held3 (fun w' => Below wr.heap.size wr w' ∧ w'.cell? ⟨pb, po + k, none⟩ = some (.string x) ∧ w'.cell? ⟨wr.heap.size, 0, none⟩ = some (.int .i64 (f1 : Int)) ∧ w'.cell? ⟨wr.heap.size, 1, none⟩ = some (.int .i64 (f2 : Int)) ∧ w'.cell? ⟨wr.heap.size, 2, none⟩ = some (.int .i64 (f3 : Int)) ∧ w'.cell? ⟨wr.heap.size, 3, none⟩ = some (.bool true)) (first | exact HS0.out | exact HCAR.out _ _ (by assumption) hb8) ((go_at_call 40; refine (HJ.out _ _ (And.left (by assumption)) (by assumption)).mono ?_; rintro e W8 ⟨rfl, hb8⟩))
              gi_wp2
              rename_i hHeld
              have hB8 := hHeld.1
              refine ⟨⟨k + 1, by omega, by simp, (congrArg (fun p : ByteArray × ByteArray => Value.string p.1) HSU.out).symm, (congrArg (fun p : ByteArray × ByteArray => Value.string p.2) HSU.out).symm, ?_, (hB8.block D (Array.getElem?_eq_some_iff.1 hX3).1).trans hX3, below_step hX4 hB8⟩, by simp [intOf]; omega⟩
              rcases HX.out.1 with e0 | ⟨g', e1, q1, q2, q3⟩
              · exact .inl e0
              · exact .inr ⟨g', e1, q1, q2, q3.kept (hB8.block g' q3.lt)⟩
          · have hkE : k = fs.length := by omega
            have hall : climb2K old fs P.reverse k = climb2 old fs P.reverse := by rw [hkE]; exact climb2K_all old fs P.reverse
            have HALL := Lib.hid hall
            clear hall hkE
            gi_wp2
            · rename_i heq
              obtain ⟨hX1, hX3, hX4⟩ := HX.out
              refine ⟨by simp, .inl ⟨_, _, rfl, run_takeDeferred hX3, ?_⟩⟩
              refine ⟨_, results_tmp rfl _ _ _, ?_⟩
              rw [HCL.out, ← HALL.out, ← pair_yes _ _ _ heq]
              exact ⟨rfl, hX4.trans (belowK_b (w := w) (Nat.le_refl _) wr D _ _ (by omega) hX3 rfl rfl)⟩
            · rename_i heq
              obtain ⟨hX1, hX3, hX4⟩ := HX.out
              refine ⟨by simp, .inl ⟨_, _, rfl, run_takeDeferred hX3, ?_⟩⟩
              refine ⟨_, results_tmp rfl _ _ _, ?_⟩
              rw [HCL.out, ← HALL.out, ← pair_no _ _ _ heq]
              exact ⟨rfl, hX4.trans (belowK_b (w := w) (Nat.le_refl _) wr D _ _ (by omega) hX3 rfl rfl)⟩
      · have hlen' : ((P.length : Int) != (fs.length : Int)) = true := by simp; omega
        have hcl : vexB old m root n P = false := by
          unfold vexB
          rw [hval, if_neg (by omega)]
          simp
        have HB := Lib.hid (hvB false)
        have HCL := Lib.hid hcl
        clear hvB hcl hval hforms
        gi_wp2
        refine ⟨by simp, .inl ⟨_, _, rfl, run_takeDeferred hK, ?_⟩⟩
        refine ⟨_, results_tmp rfl _ _ _, ?_⟩
        rw [HCL.out]
        exact HB.out
    · rw [hla, if_neg (by simp), List.length_reverse] at hval
      have hnI : (0 : Int) < (nx : Int) := by omega
      match P, hP, HTA, HD, hval with
      | [], hP, HTA, HD, hval =>
        have hcl : vexB old m root n [] = false := by
          unfold vexB
          rw [hval, if_neg (by simp)]
          simp
        have HB := Lib.hid (hvB false)
        have HCL := Lib.hid hcl
        clear hvB hcl hval hforms
        gi_wp2
        refine ⟨by simp, .inl ⟨_, _, rfl, run_takeDeferred hK, ?_⟩⟩
        refine ⟨_, results_tmp rfl _ _ _, ?_⟩
        rw [HCL.out]
        exact HB.out
      | p0 :: P1, hP, HTA, HD, hval =>
        obtain ⟨b, off, rfl, hbl, hbc⟩ := (HTA.out.2.below hbel).2.2 0 (by simp)
        rw [Nat.add_zero] at hbc
        have hp0 : (p0 :: P1)[0]'(by simp) = p0 := rfl
        rw [hp0] at hbc
        have hd9 : Below W.heap.size W W.drew := (Below.refl _ _).drew
        have hlc := (HTA.out.2).1
        have hcm := (HTA.out.2).2.1
        unfold maxLen at hcm
        have hQs : ∀ aQ : Option Addr, (aQ = if c = 1 then some ⟨b, off, none⟩ else some ⟨b, off + 1, none⟩) → StrA w aQ (c - 1) P1 := fun aQ hq => by
          by_cases hc1 : c = 1
          · have hP0 : P1 = [] := List.eq_nil_of_length_eq_zero (by rw [List.length_cons] at hlc; omega)
            subst hP0
            exact ⟨Nat.zero_le _, by unfold maxLen; omega, fun i hi => absurd hi (Nat.not_lt_zero _)⟩
          · rw [hq, if_neg hc1]
            exact HTA.out.2.drop 1
        have hD1 := digsB_true.1 HD.out.2
        have hd32 : p0.size = 32 := hD1 p0 (by simp)
        have hQD : ∀ x ∈ P1, x.size = 32 := fun x hx => hD1 x (List.mem_cons_of_mem _ hx)
        have hv9 : Boxed W.drew (w.heap.size + 1) 54 (.slice A fs.length cap) := (hd9.block _ hv.lt).trans hv
        have hforms9 := fkFn_kept hd9 hforms
        have hbel9 := below_step hbel hd9
        have hK9 : W.drew.heap[D]? = some (.deferred (some [])) := (hd9.block D hDW).trans hK
        have hDW9 : D < W.drew.heap.size := hDW
        have hvl9 : ∀ k, (Value.slice A fs.length cap).ownBlock = some k → W4.heap.size + 7 ≤ k ∧ k < W.drew.heap.size := hvl
        have hbc9 : W.drew.cell? ⟨b, off, none⟩ = some (.string p0) := (hd9.cell (p := ⟨b, off, none⟩) (block_lt_of_cell hbc)).trans hbc
        have hvB9 : ∀ bv : Bool, BoolEnd bv w (.returned (.bool bv)) (W.drew.putObj D (.deferred none)) := fun bv => ⟨rfl, hbel9.trans (belowK_b (w := w) (Nat.le_refl _) W.drew D _ _ (by omega) hK9 rfl rfl)⟩
        rw [List.length_cons] at hval
        clear hv hforms hvl hbel hvB hbn hd9 hK hDW
        obtain ⟨W0, hW0⟩ : ∃ X, X = W.drew := ⟨_, rfl⟩
        rw [← hW0] at hv9 hforms9 hbel9 hK9 hDW9 hvl9 hbc9 hvB9
        have hvc9 := hv9.cell
        obtain ⟨N1, hN1⟩ : ∃ N, N = (p0 :: P1).length := ⟨_, rfl⟩
        rw [← hN1] at hlc ⊢
        rw [List.length_cons] at hN1
        have hz : ((N1 : Int) == 0) = false := by simp; omega
        have hz1 : (1 : Int) ≤ (N1 : Int) := by omega
        have hz2 : (N1 : Int) ≤ (c : Int) := by omega
        have hz3 : (0 : Int) < (N1 : Int) := by omega
        have hz4 : 0 < N1 := by omega
        have hz5 : ¬ N1 = 0 := by omega
        have HALL9 := Lib.hid (And.intro hv9 (And.intro hforms9 (And.intro hvl9 (And.intro hbel9 (And.intro hK9 (And.intro hDW9 (And.intro hvB9 (And.intro hbc9 (And.intro hQs (And.intro hQD (And.intro hval (And.intro hlc hN1))))))))))))
        clear hv9 hforms9 hvl9 hbel9 hK9 hDW9 hvB9 hQs hQD hval hlc hN1 hD1
        gi_wp2
        rename_i K15 hK15
        obtain ⟨RP, hRP⟩ : ∃ RP : Exit → Act → World → Prop, RP = fun e a V => e = .normal ∧ V = W.drew ∧ ∃ aQ : Option Addr, (aQ = if c = 1 then some ⟨b, off, none⟩ else some ⟨b, off + 1, none⟩) ∧ a = ({ tmps := #[.string old, .int .i64 (m : Nat), .string root, .int .i64 (n : Nat), .slice (some ⟨b, off, none⟩) N1 c, undef, undef, undef, undef, undef, .bool false, .pointer (some ⟨w.heap.size + 1, 0, none⟩), .pointer (some ⟨w.heap.size + 1 + 1, 0, none⟩), undef, .string p0, .slice aQ P1.length (c - 1), undef, undef, undef, undef, .int .i64 (m : Nat), .bool false, .bool false, .int .i64 (m : Nat), .int .i64 (n : Nat), .bool false, .bool false, .bool false, .string old, .string root, .slice (some ⟨w.heap.size, 0, none⟩) 2 2, .bool true, .bool false, .bool false, .bool false, .slice (some ⟨b, off, none⟩) N1 c, .bool true, .bool false, .bool false, .int .i64 (m : Nat), .bool false, undef, undef, undef, undef, undef, undef, undef, undef, .int .i64 (n : Nat), .int .i64 (m : Nat), .func (.func 49) #[] #[.pointer (some ⟨w.heap.size + 1 + 1 + 1, 0, none⟩), .pointer (some ⟨w.heap.size + 1 + 1 + 1 + 1, 0, none⟩)], undef, undef, undef, undef, undef, undef, undef, .string old, .slice (some ⟨b, off, none⟩) N1 c, .int .i64 (nx : Nat), .bool true, .slice (some ⟨b, off, none⟩) N1 c, .int .i64 (N1 : Nat), .bool false, .slice (some ⟨b, off, none⟩) N1 c, .pointer (some ⟨b, off, none⟩), .string p0, .slice (some ⟨b, off, none⟩) N1 c, .slice aQ P1.length (c - 1), undef, undef, undef, undef, undef, undef, undef, undef, undef, undef, undef, undef, undef, undef, undef, undef, undef, undef, undef, undef, undef, undef, undef, undef, undef, undef, undef, undef, undef, undef, undef, undef, undef, undef, undef, undef, undef, undef, undef, undef, undef, undef], defers := [{ target := .collected D, args := #[] }] } : Act) := ⟨_, rfl⟩
        refine wpIn_mono (Q := RP) ?_ ?_
        · have hfin : ∀ aQ : Option Addr, (aQ = if c = 1 then some ⟨b, off, none⟩ else some ⟨b, off + 1, none⟩) → RP .normal ({ tmps := #[.string old, .int .i64 (m : Nat), .string root, .int .i64 (n : Nat), .slice (some ⟨b, off, none⟩) N1 c, undef, undef, undef, undef, undef, .bool false, .pointer (some ⟨w.heap.size + 1, 0, none⟩), .pointer (some ⟨w.heap.size + 1 + 1, 0, none⟩), undef, .string p0, .slice aQ (N1 - 1) (c - 1), undef, undef, undef, undef, .int .i64 (m : Nat), .bool false, .bool false, .int .i64 (m : Nat), .int .i64 (n : Nat), .bool false, .bool false, .bool false, .string old, .string root, .slice (some ⟨w.heap.size, 0, none⟩) 2 2, .bool true, .bool false, .bool false, .bool false, .slice (some ⟨b, off, none⟩) N1 c, .bool true, .bool false, .bool false, .int .i64 (m : Nat), .bool false, undef, undef, undef, undef, undef, undef, undef, undef, .int .i64 (n : Nat), .int .i64 (m : Nat), .func (.func 49) #[] #[.pointer (some ⟨w.heap.size + 1 + 1 + 1, 0, none⟩), .pointer (some ⟨w.heap.size + 1 + 1 + 1 + 1, 0, none⟩)], undef, undef, undef, undef, undef, undef, undef, .string old, .slice (some ⟨b, off, none⟩) N1 c, .int .i64 (nx : Nat), .bool true, .slice (some ⟨b, off, none⟩) N1 c, .int .i64 (N1 : Nat), .bool false, .slice (some ⟨b, off, none⟩) N1 c, .pointer (some ⟨b, off, none⟩), .string p0, .slice (some ⟨b, off, none⟩) N1 c, .slice aQ (N1 - 1) (c - 1), undef, undef, undef, undef, undef, undef, undef, undef, undef, undef, undef, undef, undef, undef, undef, undef, undef, undef, undef, undef, undef, undef, undef, undef, undef, undef, undef, undef, undef, undef, undef, undef, undef, undef, undef, undef, undef, undef, undef, undef, undef, undef], defers := [{ target := .collected D, args := #[] }] } : Act) W.drew := fun aQ hq => by
            rw [hRP, show N1 - 1 = P1.length by have := HALL9.out.2.2.2.2.2.2.2.2.2.2.2.2; omega]
            exact ⟨rfl, rfl, aQ, hq, rfl⟩
          clear hRP hK15 hvc
          have HF := Lib.hid hfin
          clear hfin
          rw [hW0] at hbc9
          by_cases hc1 : c = 1
          · subst hc1
            rw [if_pos rfl] at HF
            refine wpIn_wide.2 ?_
            go_region_held3 (fun w' => w' = W.drew ∧ w'.cell? ⟨b, off, none⟩ = some (.string p0)) (exact ⟨rfl, hbc9⟩) (fail)
            exact HF.out _ rfl
          · rw [if_neg hc1] at HF
            refine wpIn_wide.2 ?_
            go_region_held3 (fun w' => w' = W.drew ∧ w'.cell? ⟨b, off, none⟩ = some (.string p0)) (exact ⟨rfl, hbc9⟩) (fail)
            exact HF.out _ rfl
        · rw [hRP]
          rintro e a9 V9 ⟨rfl, rfl, aQ, hq, rfl⟩
          clear hRP hvc hnc
          obtain ⟨hv, hforms, hvl, hbel, hK, hDW, hvB, -, hQs, hQD, hval, hlc, hN1⟩ := HALL9.out
          have hQA := hQs aQ hq
          clear HALL9 hQs
          have hvc := hvc9
          clear hvc9
          rw [← hW0]
          clear hW0 hbc9 hbc
          refine hK15 _ _ ?_
          by_cases hlen : P1.length = fs.length
          · have hlen' : ((P1.length : Int) != (fs.length : Int)) = false := by simp; omega
            have hlen'' : ((P1.length : Int) == (fs.length : Int)) = true := by simp; omega
            have hcl : vexB old m root n (p0 :: P1) = decide (climb2 p0 fs (p0 :: P1).reverse = (old, root)) := by
              unfold vexB
              rw [hval, if_pos (by omega), ← hlen, List.reverse_cons]
              have hg : (P1.reverse ++ [p0]).getD P1.length ⟨#[]⟩ = p0 := by simp
              rw [hg]
              simp
            have hRK : ∀ (j : Nat) (hj : j < fs.length), (p0 :: P1).reverse[fs.length - 1 - j]'(by rw [List.length_reverse, List.length_cons]; omega) = P1[j]'(by omega) := fun j hj => by
              rw [List.getElem_reverse]
              have e : (p0 :: P1).length - 1 - (fs.length - 1 - j) = j + 1 := by rw [List.length_cons]; omega
              simp only [e, List.getElem_cons_succ]
            have HR := Lib.hid (reverseF_own (by omega) hforms)
            have HV := Lib.hid (And.intro hvl hvD)
            have HH := Lib.hid (And.intro hv (And.intro hbel hK))
            have HC0 := Lib.hid (climb2K_zero p0 fs (p0 :: P1).reverse)
            have HCL := Lib.hid hcl
            have HRK := Lib.hid hRK
            have HQA := Lib.hid hQA
            have HQD := Lib.hid hQD
            clear hforms hvl hvD hv hbel hK hN64 hcl hRK hvB hval hQA hQD hq hN1 hlc
            gi_wp2
            refine ⟨trivial, ?_⟩
            with_reducible refine (callsIn_wide.2 HR.out).mono ?_
            rintro e V ⟨rfl, hrev, hg⟩
            have hvV : Boxed V (w.heap.size + 1) 54 (.slice A fs.length cap) := HH.out.1.kept hg (fun e => by have := (HV.out.1 _ e.symm).1; omega)
            have hKV : V.heap[D]? = some (.deferred (some [])) := (hg.block D hDW (fun e => HV.out.2 _ e.symm rfl)).trans HH.out.2.2
            have hbV : Below w.heap.size w V := HH.out.2.1.grown hg (by have := HH.out.2.1.size; omega) (fun k e => by have := (HV.out.1 k e).1; omega)
            have hvVc := hvV.cell
            have hX2 : ((fs.length = 0 ∨ ∃ g, A = some ⟨g, 0, none⟩ ∧ cap ≤ maxLen ∧ fs.length ≤ cap ∧ FkFn V g fs.length (fun p => fs.getD (fs.length - 1 - p) ⟨0, 0, 0, false⟩)) ∧ V.heap[D]? = some (.deferred (some [])) ∧ Below w.heap.size w V) := by
              refine ⟨?_, hKV, hbV⟩
              rcases hrev with e0 | ⟨g, q1, q2, q3, q4, q5, q6⟩
              · exact .inl e0
              · exact .inr ⟨g, q1, q4, q5, q6⟩
            have HX2 := Lib.hid hX2
            clear hrev hg hKV hbV hvc hvV hX2
            gi_wp2
            obtain ⟨W5, hW5⟩ : ∃ X, X = V := ⟨_, rfl⟩
            rw [← hW5] at HX2 ⊢
            clear hW5 hvVc
            gi_loopw [16, 17, 82] (fun x y t wr => ∃ k : Nat, k ≤ fs.length ∧ t = .int .i64 k ∧ x = .string (climb2K p0 fs (p0 :: P1).reverse k).1 ∧ y = .string (climb2K p0 fs (p0 :: P1).reverse k).2 ∧ ((fs.length = 0 ∨ ∃ g, A = some ⟨g, 0, none⟩ ∧ cap ≤ maxLen ∧ fs.length ≤ cap ∧ FkFn wr g fs.length (fun p => fs.getD (fs.length - 1 - p) ⟨0, 0, 0, false⟩)) ∧ wr.heap[D]? = some (.deferred (some [])) ∧ Below w.heap.size w wr)) (fun _ _ t _ => fs.length - (intOf t).toNat)
            case atStart => exact ⟨0, by omega, rfl, by rw [HC0.out], by rw [HC0.out], HX2.out⟩
            case round =>
              clear HX2
              obtain ⟨k, hk, rfl, rfl, rfl, hX⟩ := hrel
              have HX := Lib.hid hX
              clear hX
              by_cases hkN : k < fs.length
              · obtain ⟨hX1, hX3, hX4⟩ := HX.out
                obtain ⟨g, rfl, hm, hcx, hF⟩ : ∃ g, A = some ⟨g, 0, none⟩ ∧ cap ≤ maxLen ∧ fs.length ≤ cap ∧ FkFn wr g fs.length (fun p => fs.getD (fs.length - 1 - p) ⟨0, 0, 0, false⟩) := by
                  rcases hX1 with e | h
                  · omega
                  · exact h
                obtain ⟨pb, po, hpa, pl, pc⟩ := (HQA.out.below hX4).2.2 k (by omega)
                have hkQ : k < P1.length := by omega
                have hsucc := climb2K_succ p0 fs (p0 :: P1).reverse k (by omega) (by rw [List.length_reverse, List.length_cons]; omega)
                rw [HRK.out k (by omega)] at hsucc
                have hfk : fs.getD (fs.length - 1 - k) ⟨0, 0, 0, false⟩ = fs[fs.length - 1 - k]'(by omega) := by
                  rw [List.getD, List.getElem?_eq_getElem (by omega)]
                  simp only [Option.getD_some]
                rw [← hfk] at hsucc
                have hp32 : P1[k].size = 32 := HQD.out _ (List.getElem_mem hkQ)
                have hc32 := climb2_size p0 hd32 (fs.drop (fs.length - k)) ((p0 :: P1).reverse.drop (fs.length - k))
                have hc32' : (climb2K p0 fs (p0 :: P1).reverse k).1.size = 32 ∧ (climb2K p0 fs (p0 :: P1).reverse k).2.size = 32 := hc32
                obtain ⟨hy1, hy2⟩ := hc32'
                obtain ⟨g0, g1, g2, g3⟩ := hF.cells k hkN
                have hgl := hF.lt
                have hTw : Tab wr := HTA.out.1.below hX4
                have HSU := Lib.hid hsucc
                clear hsucc hfk hc32 hF
                generalize hf9 : fs.getD (fs.length - 1 - k) ⟨0, 0, 0, false⟩ = f9 at *
                have HF9 := Lib.hid hf9
                clear hf9
                generalize P1[k] = x at *
                generalize climb2K p0 fs (p0 :: P1).reverse k = y at *
                obtain ⟨y1, y2⟩ := y
                simp only at hy1 hy2
                have hkI : (k : Int) < (fs.length : Int) := by omega
                have hkP' : (k : Int) < (P1.length : Int) := by omega
                have hpc : (wr.alloc (.cells (fkC f9) 49)).cell? ⟨pb, po + k, none⟩ = some (.string x) := (((Below.refl wr.heap.size wr).alloc (Nat.le_refl _) _).cell (p := ⟨pb, po + k, none⟩) pl).trans pc
                obtain ⟨f1, f2, f3, f4⟩ := f9
                unfold fkC at hpc
                subst hpa
                cases f4
                · simp only at hpc g3
                  have hb9 : Below wr.heap.size wr (wr.alloc (.cells #[.int .i64 (f1 : Int), .int .i64 (f2 : Int), .int .i64 (f3 : Int), .bool false] 49)) := (Below.refl _ _).alloc (Nat.le_refl _) _
                  have HJ := Lib.hid (fun V (z : ByteArray) (h : Below wr.heap.size wr V) (hz : z.size = 32) => join_any ⟨f1, f2, f3, false⟩ z x V (hTw.below h) (by omega) (by omega))
                  have HB9 := Lib.hid hb9
                  unfold fkV at HJ
                  clear hp32 hTw hb9 hX1
                  gi_wp2
                  refine wpIn_wide.2 ?_
                  have h0 : Below wr.heap.size wr ((wr.alloc (.cells #[.int .i64 (f1 : Int), .int .i64 (f2 : Int), .int .i64 (f3 : Int), .bool false] 49)).drew) := HB9.out.drew
                  have hnew : ∀ j, (wr.alloc (.cells #[.int .i64 (f1 : Int), .int .i64 (f2 : Int), .int .i64 (f3 : Int), .bool false] 49)).drew.cell? ⟨wr.heap.size, j, none⟩ = #[Value.int .i64 (f1 : Int), .int .i64 (f2 : Int), .int .i64 (f3 : Int), .bool false][j]? := fun j => cell_of_row _ _ j _ _ _ (heap_alloc_new wr _)
                  have hS0 : (Below wr.heap.size wr ((wr.alloc (.cells #[.int .i64 (f1 : Int), .int .i64 (f2 : Int), .int .i64 (f3 : Int), .bool false] 49)).drew) ∧ ((wr.alloc (.cells #[.int .i64 (f1 : Int), .int .i64 (f2 : Int), .int .i64 (f3 : Int), .bool false] 49)).drew).cell? ⟨pb, po + k, none⟩ = some (.string x) ∧ ((wr.alloc (.cells #[.int .i64 (f1 : Int), .int .i64 (f2 : Int), .int .i64 (f3 : Int), .bool false] 49)).drew).cell? ⟨wr.heap.size, 0, none⟩ = some (.int .i64 (f1 : Int)) ∧ ((wr.alloc (.cells #[.int .i64 (f1 : Int), .int .i64 (f2 : Int), .int .i64 (f3 : Int), .bool false] 49)).drew).cell? ⟨wr.heap.size, 1, none⟩ = some (.int .i64 (f2 : Int)) ∧ ((wr.alloc (.cells #[.int .i64 (f1 : Int), .int .i64 (f2 : Int), .int .i64 (f3 : Int), .bool false] 49)).drew).cell? ⟨wr.heap.size, 2, none⟩ = some (.int .i64 (f3 : Int)) ∧ ((wr.alloc (.cells #[.int .i64 (f1 : Int), .int .i64 (f2 : Int), .int .i64 (f3 : Int), .bool false] 49)).drew).cell? ⟨wr.heap.size, 3, none⟩ = some (.bool false)) := ⟨h0, hpc, hnew 0, hnew 1, hnew 2, hnew 3⟩
                  have hcar : ∀ W W' : World, (Below wr.heap.size wr W ∧ W.cell? ⟨pb, po + k, none⟩ = some (.string x) ∧ W.cell? ⟨wr.heap.size, 0, none⟩ = some (.int .i64 (f1 : Int)) ∧ W.cell? ⟨wr.heap.size, 1, none⟩ = some (.int .i64 (f2 : Int)) ∧ W.cell? ⟨wr.heap.size, 2, none⟩ = some (.int .i64 (f3 : Int)) ∧ W.cell? ⟨wr.heap.size, 3, none⟩ = some (.bool false)) → Below W.heap.size W W' → (Below wr.heap.size wr W' ∧ W'.cell? ⟨pb, po + k, none⟩ = some (.string x) ∧ W'.cell? ⟨wr.heap.size, 0, none⟩ = some (.int .i64 (f1 : Int)) ∧ W'.cell? ⟨wr.heap.size, 1, none⟩ = some (.int .i64 (f2 : Int)) ∧ W'.cell? ⟨wr.heap.size, 2, none⟩ = some (.int .i64 (f3 : Int)) ∧ W'.cell? ⟨wr.heap.size, 3, none⟩ = some (.bool false)) := fun W W' h hb =>
                    have q := fun (p : Addr) (u : Value) (hc : W.cell? p = some u) => (hb.cell (p := p) (block_lt_of_cell hc)).trans hc
                    ⟨below_step h.1 hb, q _ _ h.2.1, q _ _ h.2.2.1, q _ _ h.2.2.2.1, q _ _ h.2.2.2.2.1, q _ _ h.2.2.2.2.2⟩
                  have HCAR := Lib.hid hcar
                  have HS0 := Lib.hid hS0
                  clear hcar hS0 hnew h0 hpc
                  go_region_held3 (fun w' => Below wr.heap.size wr w' ∧ w'.cell? ⟨pb, po + k, none⟩ = some (.string x) ∧ w'.cell? ⟨wr.heap.size, 0, none⟩ = some (.int .i64 (f1 : Int)) ∧ w'.cell? ⟨wr.heap.size, 1, none⟩ = some (.int .i64 (f2 : Int)) ∧ w'.cell? ⟨wr.heap.size, 2, none⟩ = some (.int .i64 (f3 : Int)) ∧ w'.cell? ⟨wr.heap.size, 3, none⟩ = some (.bool false)) (first | exact HS0.out | exact HCAR.out _ _ (by assumption) hb8) ((go_at_call 40; refine (HJ.out _ _ (And.left (by assumption)) (by assumption)).mono ?_; rintro e W8 ⟨rfl, hb8⟩))
                  gi_wp2
                  rename_i hHeld
                  obtain ⟨W6, hW6⟩ : ∃ X, X = W8 := ⟨_, rfl⟩
                  refine wpIn_wide.2 ?_
                  have HS1 := Lib.hid (HCAR.out _ _ hHeld ((Below.refl _ _).drew))
                  clear HS0
                  go_region_held3 (fun w' => Below wr.heap.size wr w' ∧ w'.cell? ⟨pb, po + k, none⟩ = some (.string x) ∧ w'.cell? ⟨wr.heap.size, 0, none⟩ = some (.int .i64 (f1 : Int)) ∧ w'.cell? ⟨wr.heap.size, 1, none⟩ = some (.int .i64 (f2 : Int)) ∧ w'.cell? ⟨wr.heap.size, 2, none⟩ = some (.int .i64 (f3 : Int)) ∧ w'.cell? ⟨wr.heap.size, 3, none⟩ = some (.bool false)) (first | exact HS1.out | exact HCAR.out _ _ (by assumption) hb8) ((go_at_call 40; refine (HJ.out _ _ (And.left (by assumption)) (by assumption)).mono ?_; rintro e W8 ⟨rfl, hb8⟩))
                  gi_wp2
                  rename_i hHeld
                  have hB8 := hHeld.1
                  refine ⟨⟨k + 1, by omega, by simp, (congrArg (fun p : ByteArray × ByteArray => Value.string p.1) HSU.out).symm, (congrArg (fun p : ByteArray × ByteArray => Value.string p.2) HSU.out).symm, ?_, (hB8.block D (Array.getElem?_eq_some_iff.1 hX3).1).trans hX3, below_step hX4 hB8⟩, by simp [intOf]; omega⟩
                  rcases HX.out.1 with e0 | ⟨g', e1, q1, q2, q3⟩
                  · exact .inl e0
                  · exact .inr ⟨g', e1, q1, q2, q3.kept (hB8.block g' q3.lt)⟩
                · simp only at hpc g3
                  have hb9 : Below wr.heap.size wr (wr.alloc (.cells #[.int .i64 (f1 : Int), .int .i64 (f2 : Int), .int .i64 (f3 : Int), .bool true] 49)) := (Below.refl _ _).alloc (Nat.le_refl _) _
                  have HJ := Lib.hid (fun V (z : ByteArray) (h : Below wr.heap.size wr V) (hz : z.size = 32) => join_any ⟨f1, f2, f3, true⟩ z x V (hTw.below h) (by omega) (by omega))
                  have HB9 := Lib.hid hb9
                  unfold fkV at HJ
                  clear hp32 hTw hb9 hX1
                  gi_wp2
                  refine wpIn_wide.2 ?_
                  have h0 : Below wr.heap.size wr ((wr.alloc (.cells #[.int .i64 (f1 : Int), .int .i64 (f2 : Int), .int .i64 (f3 : Int), .bool true] 49)).drew) := HB9.out.drew
                  have hnew : ∀ j, (wr.alloc (.cells #[.int .i64 (f1 : Int), .int .i64 (f2 : Int), .int .i64 (f3 : Int), .bool true] 49)).drew.cell? ⟨wr.heap.size, j, none⟩ = #[Value.int .i64 (f1 : Int), .int .i64 (f2 : Int), .int .i64 (f3 : Int), .bool true][j]? := fun j => cell_of_row _ _ j _ _ _ (heap_alloc_new wr _)
                  have hS0 : (Below wr.heap.size wr ((wr.alloc (.cells #[.int .i64 (f1 : Int), .int .i64 (f2 : Int), .int .i64 (f3 : Int), .bool true] 49)).drew) ∧ ((wr.alloc (.cells #[.int .i64 (f1 : Int), .int .i64 (f2 : Int), .int .i64 (f3 : Int), .bool true] 49)).drew).cell? ⟨pb, po + k, none⟩ = some (.string x) ∧ ((wr.alloc (.cells #[.int .i64 (f1 : Int), .int .i64 (f2 : Int), .int .i64 (f3 : Int), .bool true] 49)).drew).cell? ⟨wr.heap.size, 0, none⟩ = some (.int .i64 (f1 : Int)) ∧ ((wr.alloc (.cells #[.int .i64 (f1 : Int), .int .i64 (f2 : Int), .int .i64 (f3 : Int), .bool true] 49)).drew).cell? ⟨wr.heap.size, 1, none⟩ = some (.int .i64 (f2 : Int)) ∧ ((wr.alloc (.cells #[.int .i64 (f1 : Int), .int .i64 (f2 : Int), .int .i64 (f3 : Int), .bool true] 49)).drew).cell? ⟨wr.heap.size, 2, none⟩ = some (.int .i64 (f3 : Int)) ∧ ((wr.alloc (.cells #[.int .i64 (f1 : Int), .int .i64 (f2 : Int), .int .i64 (f3 : Int), .bool true] 49)).drew).cell? ⟨wr.heap.size, 3, none⟩ = some (.bool true)) := ⟨h0, hpc, hnew 0, hnew 1, hnew 2, hnew 3⟩
                  have hcar : ∀ W W' : World, (Below wr.heap.size wr W ∧ W.cell? ⟨pb, po + k, none⟩ = some (.string x) ∧ W.cell? ⟨wr.heap.size, 0, none⟩ = some (.int .i64 (f1 : Int)) ∧ W.cell? ⟨wr.heap.size, 1, none⟩ = some (.int .i64 (f2 : Int)) ∧ W.cell? ⟨wr.heap.size, 2, none⟩ = some (.int .i64 (f3 : Int)) ∧ W.cell? ⟨wr.heap.size, 3, none⟩ = some (.bool true)) → Below W.heap.size W W' → (Below wr.heap.size wr W' ∧ W'.cell? ⟨pb, po + k, none⟩ = some (.string x) ∧ W'.cell? ⟨wr.heap.size, 0, none⟩ = some (.int .i64 (f1 : Int)) ∧ W'.cell? ⟨wr.heap.size, 1, none⟩ = some (.int .i64 (f2 : Int)) ∧ W'.cell? ⟨wr.heap.size, 2, none⟩ = some (.int .i64 (f3 : Int)) ∧ W'.cell? ⟨wr.heap.size, 3, none⟩ = some (.bool true)) := fun W W' h hb =>
                    have q := fun (p : Addr) (u : Value) (hc : W.cell? p = some u) => (hb.cell (p := p) (block_lt_of_cell hc)).trans hc
                    ⟨below_step h.1 hb, q _ _ h.2.1, q _ _ h.2.2.1, q _ _ h.2.2.2.1, q _ _ h.2.2.2.2.1, q _ _ h.2.2.2.2.2⟩
                  have HCAR := Lib.hid hcar
                  have HS0 := Lib.hid hS0
                  clear hcar hS0 hnew h0 hpc
                  go_region_held3 (fun w' => Below wr.heap.size wr w' ∧ w'.cell? ⟨pb, po + k, none⟩ = some (.string x) ∧ w'.cell? ⟨wr.heap.size, 0, none⟩ = some (.int .i64 (f1 : Int)) ∧ w'.cell? ⟨wr.heap.size, 1, none⟩ = some (.int .i64 (f2 : Int)) ∧ w'.cell? ⟨wr.heap.size, 2, none⟩ = some (.int .i64 (f3 : Int)) ∧ w'.cell? ⟨wr.heap.size, 3, none⟩ = some (.bool true)) (first | exact HS0.out | exact HCAR.out _ _ (by assumption) hb8) ((go_at_call 40; refine (HJ.out _ _ (And.left (by assumption)) (by assumption)).mono ?_; rintro e W8 ⟨rfl, hb8⟩))
                  gi_wp2
                  rename_i hHeld
                  have hB8 := hHeld.1
                  refine ⟨⟨k + 1, by omega, by simp, (congrArg (fun p : ByteArray × ByteArray => Value.string p.1) HSU.out).symm, (congrArg (fun p : ByteArray × ByteArray => Value.string p.2) HSU.out).symm, ?_, (hB8.block D (Array.getElem?_eq_some_iff.1 hX3).1).trans hX3, below_step hX4 hB8⟩, by simp [intOf]; omega⟩
                  rcases HX.out.1 with e0 | ⟨g', e1, q1, q2, q3⟩
                  · exact .inl e0
                  · exact .inr ⟨g', e1, q1, q2, q3.kept (hB8.block g' q3.lt)⟩
              · have hkE : k = fs.length := by omega
                have hall : climb2K p0 fs (p0 :: P1).reverse k = climb2 p0 fs (p0 :: P1).reverse := by rw [hkE]; exact climb2K_all p0 fs (p0 :: P1).reverse
                have HALL := Lib.hid hall
                clear hall hkE
                gi_wp2
                · rename_i heq
                  obtain ⟨hX1, hX3, hX4⟩ := HX.out
                  refine ⟨by simp, .inl ⟨_, _, rfl, run_takeDeferred hX3, ?_⟩⟩
                  refine ⟨_, results_tmp rfl _ _ _, ?_⟩
                  rw [HCL.out, ← HALL.out, List.reverse_cons, ← pair_yes _ _ _ heq]
                  exact ⟨rfl, hX4.trans (belowK_b (w := w) (Nat.le_refl _) wr D _ _ (by omega) hX3 rfl rfl)⟩
                · rename_i heq
                  obtain ⟨hX1, hX3, hX4⟩ := HX.out
                  refine ⟨by simp, .inl ⟨_, _, rfl, run_takeDeferred hX3, ?_⟩⟩
                  refine ⟨_, results_tmp rfl _ _ _, ?_⟩
                  rw [HCL.out, ← HALL.out, List.reverse_cons, ← pair_no _ _ _ heq]
                  exact ⟨rfl, hX4.trans (belowK_b (w := w) (Nat.le_refl _) wr D _ _ (by omega) hX3 rfl rfl)⟩

          · have hlen' : ((P1.length : Int) != (fs.length : Int)) = true := by simp; omega
            have hcl : vexB old m root n (p0 :: P1) = false := by
              unfold vexB
              rw [hval, if_neg (by omega)]
              simp
            have HB := Lib.hid (hvB false)
            have HCL := Lib.hid hcl
            clear hvB hcl hval hforms hq hN1 hlc hQA hQD
            gi_wp2
            refine ⟨by simp, .inl ⟨_, _, rfl, run_takeDeferred hK, ?_⟩⟩
            refine ⟨_, results_tmp rfl _ _ _, ?_⟩
            rw [HCL.out]
            exact HB.out
  case stop =>
    rintro D c pre W _ _ h _
    exact h.elim
end Go.Proofs.YtbaggjhjkignkaaDoor

