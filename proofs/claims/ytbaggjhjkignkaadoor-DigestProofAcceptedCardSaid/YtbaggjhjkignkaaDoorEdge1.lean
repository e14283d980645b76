/-
  The contract of the package's edge$1: it yields the forks on the way down to the end of the first M entries.
-/
import Derived.Test.YtbaggjhjkignkaaDoorEdgeIt
namespace Go.Proofs.YtbaggjhjkignkaaDoor
open Go.RowKit Go.Shelf Tree

attribute [local go_sem] Oper.semAt_some

set_option maxRecDepth 100000 in
set_option maxHeartbeats 1600000 in
theorem edge1_in (n : Nat) (hn : 4 ≤ n) (l Bn Bm N M : Nat) (hN : N < 9223372036854775808) (h1 : 1 ≤ M) (h2 : M ≤ N) (J : Nat → List (FkN N) → World → Prop) (Jx : List (FkN N) → World → Prop) (W : World) (hJ : ∀ b, OwnFrom W.heap.size (J b)) (hJx : OwnFrom W.heap.size Jx)
    (hY : ∀ b pre x W1, J b pre W1 → b + 2 ≤ W1.heap.size → W.heap.size + 5 ≤ W1.heap.size → pre.length < 64 → YieldAt Fence.wide (n - 1) Tryd.prog l #[fkV x.1] W1 fun e W' =>
      (e = .returned (.bool true) ∧ J W'.heap.size (pre ++ [x]) W' ∧ KeepsTop 2 (farG (fun j => j = Bm) W.heap.size 5) W1 W' ∧ KeepsFrom W.heap.size W1 W') ∨ (e = .returned (.bool false) ∧ Jx (pre ++ [x]) W' ∧ KeepsFrom W.heap.size W1 W'))
    (hBn : W.cell? ⟨Bn, 0, none⟩ = some (.int .i64 (N : Int))) (hBm : W.cell? ⟨Bm, 0, none⟩ = some (.int .i64 (M : Int))) (h0 : J W.heap.size [] W) :
    CallsIn Fence.wide n Tryd.prog 49 #[.func (.yield l) #[] #[], .pointer (some ⟨Bn, 0, none⟩), .pointer (some ⟨Bm, 0, none⟩)] W fun e W' => (∃ v, e = .returned v) ∧
      ((∃ (b : Nat) (ys : List (FkN N)), b ≤ W'.heap.size ∧ ys.map (·.1) = edgeF 64 0 N M ∧ J b ys W') ∨ (∃ pre : List (FkN N), pre.map (·.1) <+: edgeF 64 0 N M ∧ Jx pre W')) := by
  refine callsIn_of_wp_marks Tryd.func49 rfl trivial ?_ rfl
  simp only [Tryd.ntmps49, List.size_toArray, List.length_cons, List.length_nil, Nat.reduceAdd, Nat.reduceSub, Array.replicate_succ, Array.replicate_zero, List.push_toArray, List.append_toArray, List.nil_append, List.cons_append]
  have hn1 : ∀ o, (W.alloc o).cell? ⟨Bn, 0, none⟩ = some (.int .i64 (N : Int)) := fun o => (((Below.refl W.heap.size W).alloc (Nat.le_refl _) o).cell (p := ⟨Bn, 0, none⟩) (block_lt_of_cell hBn)).trans hBn
  have hm1 : ∀ o, (W.alloc o).cell? ⟨Bm, 0, none⟩ = some (.int .i64 (M : Int)) := fun o => (((Below.refl W.heap.size W).alloc (Nat.le_refl _) o).cell (p := ⟨Bm, 0, none⟩) (block_lt_of_cell hBm)).trans hBm
  have hM1 : (M : Int) - 1 = ((M - 1 : Nat) : Int) := by omega
  gi_wp2_with (first | (refine ⟨trivial, (fun h => by cases h), ?_⟩; refine (forks_in _ _ _ _).mono ?_; rintro e w' ⟨rfl, rfl⟩))
  obtain ⟨W4, hW4⟩ : ∃ V, V = ((W.alloc (.cells #[.func (.yield l) #[] #[]] 68)).alloc (.cells #[.int .i64 (N : Int)] 3)).alloc (.cells #[.int .i64 ((M - 1 : Nat) : Int)] 3) := ⟨_, rfl⟩
  have hs0 : (W.alloc (.cells #[.func (.yield l) #[] #[]] 68)).heap.size = W.heap.size + 1 := by simp
  rw [← hW4]
  have hs4 : W4.heap.size = W.heap.size + 3 := by rw [hW4]; simp
  have hb4 : Below W.heap.size W W4 := by rw [hW4]; exact (((Below.refl _ W).alloc (Nat.le_refl _) _).alloc (by simp) _).alloc (by simp; omega) _
  have e0 : W4.heap[W.heap.size]? = some (.cells #[.func (.yield l) #[] #[]] 68 (0, 0)) := by
    rw [hW4, heap_alloc_old _ _ (by simp; omega), heap_alloc_old _ _ (by simp)]; exact heap_alloc_new _ _
  have e1 : W4.heap[W.heap.size + 1]? = some (.cells #[.int .i64 (N : Int)] 3 (0, 0)) := by
    rw [hW4, heap_alloc_old _ _ (by simp)]
    have := heap_alloc_new (W.alloc (.cells #[.func (.yield l) #[] #[]] 68)) (.cells #[.int .i64 (N : Int)] 3)
    rw [hs0] at this; exact this
  have e2 : W4.heap[W.heap.size + 1 + 1]? = some (.cells #[.int .i64 ((M - 1 : Nat) : Int)] 3 (0, 0)) := by
    rw [hW4]
    have := heap_alloc_new ((W.alloc (.cells #[.func (.yield l) #[] #[]] 68)).alloc (.cells #[.int .i64 (N : Int)] 3)) (.cells #[.int .i64 ((M - 1 : Nat) : Int)] 3)
    rw [World.size_alloc, hs0] at this; exact this
  have hm4 : W4.cell? ⟨Bm, 0, none⟩ = some (.int .i64 (M : Int)) := (hb4.cell (p := ⟨Bm, 0, none⟩) (block_lt_of_cell hBm)).trans hBm
  have h04 : J W.heap.size [] W4 := hJ _ _ _ _ none h0 (grownBy_of_below hb4) (fun r e => by cases e)
  clear hW4 hn1 hm1
  have HB := Lib.hid hb4
  have HY := Lib.hid hY
  clear hb4 hY h0 hBn hBm
  refine wpIn_rangeFunc_topP rfl (by omega) (gf := 48) (lb := #[.pointer (some ⟨W.heap.size + 1, 0, none⟩), .pointer (some ⟨W.heap.size + 1 + 1, 0, none⟩)]) rfl trivial (enters_of Tryd.func48 (by kernel_rfl) rfl)
    (forks_stops (n - 1) (W.heap.size + 1) (W.heap.size + 1 + 1) N (M - 1) hN (by omega) W4 (cell_of_row W4 _ 0 _ _ _ e1) (cell_of_row W4 _ 0 _ _ _ e2)) (Below.refl _ _) (fun _ => rfl)
    (fun bnd (pre : List (FkN N)) V => (∃ b, b ≤ bnd ∧ W4.heap.size ≤ bnd ∧ J b pre V) ∧ (∀ x ∈ pre, x.1.fin ≠ M) ∧ V.heap[W.heap.size]? = some (.cells #[.func (.yield l) #[] #[]] 68 (0, 0)) ∧ V.heap[W.heap.size + 1 + 1]? = some (.cells #[.int .i64 ((M - 1 : Nat) : Int)] 3 (0, 0)) ∧ V.cell? ⟨Bm, 0, none⟩ = some (.int .i64 (M : Int)))
    (fun c (pre : List (FkN N)) V => c = .ret ∧ ((∃ b ys x, pre = ys ++ [x] ∧ x.1.fin = M ∧ (∀ y ∈ ys, y.1.fin ≠ M) ∧ b ≤ V.heap.size ∧ J b ys V) ∨ ((∀ y ∈ pre, y.1.fin ≠ M) ∧ Jx pre V)))
    ?own ?ownx ?start
    (fun U (x : FkN N) a' V => V.heap.size = U.heap.size + 1 ∧ (∀ (j : Nat) (o : Obj), U.heap[j]? = some o → o.isCells = true → V.heap[j]? = some o) ∧ ∃ Bb : Nat, U.heap.size ≤ Bb ∧ V.heap[Bb]? = some (.cells (fkC x.1) 49 (0, 0)) ∧ a' = { tmps := #[.func (.yield l) #[] #[], .pointer (some ⟨Bn, 0, none⟩), .pointer (some ⟨Bm, 0, none⟩), .pointer (some ⟨W.heap.size, 0, none⟩), .pointer (some ⟨Bb, 0, none⟩), .int .i64 (N : Int), .int .i64 (M : Int), .int .i64 ((M - 1 : Nat) : Int), .func (.func 48) #[] #[.pointer (some ⟨W.heap.size + 1, 0, none⟩), .pointer (some ⟨W.heap.size + 1 + 1, 0, none⟩)], fkV x.1, undef, undef, undef, undef, undef, undef, undef, undef, undef, undef], defers := [] })
    ?ownax ?assign ?body ?done ?stop
  case start => exact ⟨⟨_, by omega, Nat.le_refl _, h04⟩, (fun x hx => by cases hx), e0, e2, hm4⟩
  case own =>
    rintro bnd pre A B row ⟨⟨b, hb, hw4, hj⟩, hp, g0, g2, gm⟩ hg hr
    have keep : ∀ (j : Nat) (o : Obj), A.heap[j]? = some o → o.isCells = true → B.heap[j]? = some o := fun j o hj ho => (hg.block _ (Array.getElem?_eq_some_iff.1 hj).1 (fun e => by
      obtain ⟨_, o', ho', hc⟩ := hr _ e.symm
      rw [hj] at ho'; cases ho'; rw [ho] at hc; cases hc)).trans hj
    obtain ⟨cs, t, fr, hrow, hi0⟩ := row_of_cell gm
    exact ⟨⟨b, hb, hw4, hJ b _ _ _ _ hj hg (fun r e => ⟨by have := (hr r e).1; omega, (hr r e).2⟩)⟩, hp, keep _ _ g0 rfl, keep _ _ g2 rfl, by rw [cell_of_row B Bm 0 cs t fr (keep _ _ hrow rfl)]; exact hi0⟩
  case ownx =>
    rintro c pre A B row ⟨hc, h⟩ hg hr
    have hr' : ∀ r, row = some r → W.heap.size ≤ r ∧ ∃ o : Obj, A.heap[r]? = some o ∧ o.isCells = false := fun r e => ⟨by have := (hr r e).1; omega, (hr r e).2⟩
    refine ⟨hc, ?_⟩
    rcases h with ⟨b, ys, x, q1, q2, q3, q4, q5⟩ | ⟨q1, q2⟩
    · exact .inl ⟨b, ys, x, q1, q2, q3, Nat.le_trans q4 hg.size, hJ b _ _ _ _ q5 hg hr'⟩
    · exact .inr ⟨q1, hJx _ _ _ _ q2 hg hr'⟩
  case ownax =>
    rintro U x a' V l9 o o' ⟨q0, qk, Bb, q1, q2, q3⟩ hl ho hc
    have hne : ∀ {j : Nat} {o9 : Obj}, V.heap[j]? = some o9 → o9.isCells = true → j ≠ l9 := fun h1 h2 e => by
      subst e; rw [ho] at h1; cases h1; rw [hc] at h2; cases h2
    exact ⟨by simpa using q0, fun j o9 hj hc9 => (World.putObj_heap_other (hne (qk j o9 hj hc9) hc9)).trans (qk j o9 hj hc9), Bb, q1, (World.putObj_heap_other (hne q2 rfl)).trans q2, q3⟩
  case assign =>
    rintro l0 bnd pre ⟨⟨f1, f2, f3, f4⟩, hwi⟩ U K hbk ⟨⟨b, hb, hw4, hj⟩, hp, g0, g2, gm⟩ hK
    unfold fkV at hK ⊢
    unfold fkC at hK
    have hgr := World.grownBy_alloc U (.cells #[.int .i64 (f1 : Int), .int .i64 (f2 : Int), .int .i64 (f3 : Int), .bool f4] 49) none
    have hgm := (((Below.refl U.heap.size U).alloc (Nat.le_refl _) (.cells #[.int .i64 (f1 : Int), .int .i64 (f2 : Int), .int .i64 (f3 : Int), .bool f4] 49)).cell (p := ⟨Bm, 0, none⟩) (block_lt_of_cell gm)).trans gm
    gi_wp2
    refine hK _ _ ((KeepsOthers.alloc _ _).from _) ⟨⟨b, hb, hw4, hJ b _ _ _ none hj hgr (fun r e => by cases e)⟩, hp, (heap_alloc_old _ _ (Array.getElem?_eq_some_iff.1 g0).1).trans g0, (heap_alloc_old _ _ (Array.getElem?_eq_some_iff.1 g2).1).trans g2, hgm⟩ ⟨by simp, fun j o hj _ => (heap_alloc_old _ _ (Array.getElem?_eq_some_iff.1 hj).1).trans hj, U.heap.size, Nat.le_refl _, heap_alloc_new _ _, rfl⟩
  case done =>
    rintro D bnd xs V hD hbV hS ⟨⟨b, hb, -, hj⟩, hp, -⟩ hK
    have hedge : xs.map (·.1) = edgeF 64 0 N M := by
      unfold edgeF
      rw [← hS]
      have q := List.takeWhile_append_of_pos (p := fun f : Fk => f.fin != M) (l₁ := xs.map (·.1)) (l₂ := []) (fun f hf => by
        obtain ⟨x, hx, rfl⟩ := List.mem_map.1 hf
        simpa using hp x hx)
      rw [List.append_nil, List.takeWhile_nil, List.append_nil] at q
      exact q.symm
    have hj' := (hJ b).putObj (.deferred none) hj (by omega) hK rfl
    have HE := Lib.hid (And.intro hedge hj')
    clear hedge hj'
    gi_wp2
    refine ⟨by simp, .inl ⟨_, _, rfl, run_takeDeferred hK, ?_⟩⟩
    refine ⟨_, results_none rfl _ _ _, ⟨_, rfl⟩, .inl ⟨b, xs, by simp; omega, HE.out.1, ?_⟩⟩
    exact HE.out.2
  case stop =>
    rintro D c pre V hD hS ⟨rfl, h⟩ hK
    obtain ⟨r, hr⟩ := hS
    have hfin : (∃ (b : Nat) (ys : List (FkN N)), b ≤ (V.putObj D (.deferred none)).heap.size ∧ ys.map (·.1) = edgeF 64 0 N M ∧ J b ys (V.putObj D (.deferred none))) ∨ (∃ pre : List (FkN N), pre.map (·.1) <+: edgeF 64 0 N M ∧ Jx pre (V.putObj D (.deferred none))) := by
      have all : ∀ zs : List (FkN N), (∀ y ∈ zs, y.1.fin ≠ M) → ∀ f ∈ zs.map (·.1), (fun f : Fk => f.fin != M) f = true := fun zs hz f hf => by
        obtain ⟨x, hx, rfl⟩ := List.mem_map.1 hf
        simpa using hz x hx
      unfold edgeF
      rw [← hr]
      rcases h with ⟨b, ys, x, rfl, hx, hy, hb, hj⟩ | ⟨hy, hj⟩
      · refine .inl ⟨b, ys, by simpa using hb, ?_, (hJ b).putObj _ hj (by omega) hK rfl⟩
        rw [List.map_append, List.append_assoc, List.takeWhile_append_of_pos (all ys hy)]
        show _ = _ ++ List.takeWhile _ (x.1 :: r)
        rw [List.takeWhile_cons_of_neg (by simp [hx]), List.append_nil]
      · refine .inr ⟨pre, ?_, hJx.putObj _ hj (by omega) hK rfl⟩
        rw [List.takeWhile_append_of_pos (all pre hy)]
        exact ⟨_, rfl⟩
    have HF := Lib.hid hfin
    clear hfin
    gi_wp2
    refine ⟨by simp, .inl ⟨_, _, rfl, run_takeDeferred hK, ?_⟩⟩
    exact ⟨_, results_none rfl _ _ _, ⟨_, rfl⟩, HF.out.elim (fun ⟨b, ys, q1, q2, q3⟩ => .inl ⟨b, q1, ys, q2, q3⟩) (fun ⟨pre, q1, q2⟩ => .inr ⟨pre, q1, q2⟩)⟩
  case body =>
    rintro l0 bnd pre ⟨⟨f1, f2, f3, f4⟩, hwi⟩ U a' V hbk ⟨⟨b, hb, hw4, hj⟩, hp, g0, g2, gm⟩ ⟨hVU, hUV, Bb, hBb, hcb, rfl⟩ hlen hl0 _
    have c0 : V.cell? ⟨Bb, 0, none⟩ = some (.int .i64 f1) := cell_of_row V _ 0 _ _ _ hcb
    have c1 : V.cell? ⟨Bb, 1, none⟩ = some (.int .i64 f2) := cell_of_row V _ 1 _ _ _ hcb
    have c2 : V.cell? ⟨Bb, 2, none⟩ = some (.int .i64 f3) := cell_of_row V _ 2 _ _ _ hcb
    have c3 : V.cell? ⟨Bb, 3, none⟩ = some (.bool f4) := cell_of_row V _ 3 _ _ _ hcb
    have cy : V.cell? ⟨W.heap.size, 0, none⟩ = some (.func (.yield l) #[] #[]) := cell_of_row V _ 0 _ _ _ g0
    by_cases hf : f3 = M
    · subst hf
      have HFIN := Lib.hid (And.intro hb (And.intro hj (And.intro hp (Array.getElem?_eq_some_iff.1 hcb).1)))
      clear hb hj hp g0 g2 hcb
      gi_wp2
      refine ⟨(fun f h => by cases h), ?_⟩
      rename_i K1 hK1 K2 hK2 x9 h9 w9 heq9
      refine hK2 _ _ ?_
      clear heq9
      gi_wp2
      exact ⟨KeepsFrom.refl _ _, rfl, .inl ⟨b, pre, _, rfl, rfl, HFIN.out.2.2.1, by have := HFIN.out.2.2.2; have := HFIN.out.1; omega, HFIN.out.2.1⟩⟩
    · have hBV := (Array.getElem?_eq_some_iff.1 hcb).1
      obtain ⟨fn, tmps, assign, body, hy, hR⟩ := HY.out b pre ⟨⟨f1, f2, f3, f4⟩, hwi⟩ V hj (by omega) (by omega) (by omega)
      have hfk : fkV ⟨f1, f2, f3, f4⟩ = .agg #[.int .i64 f1, .int .i64 f2, .int .i64 f3, .bool f4] := by simp [fkV]
      simp only [hfk] at hy
      have hne : ((f3 : Int) == (M : Int)) = false := by simp; omega
      obtain ⟨cs, t, fr, hmr, hmi⟩ := row_of_cell gm
      have HP := Lib.hid hp
      have HM := Lib.hid (And.intro hmr hmi)
      have HG := Lib.hid (And.intro g0 (And.intro g2 hcb))
      have HRR : RoundIn (Fence.wide.inRound l0) (n - 1 - 1 - 1) Tryd.prog l fn tmps assign body V _ := ⟨hR.1, fun c cs _ => hR.2 c cs (wide_room _)⟩
      clear hp g0 g2 hj hmr hmi hR
      gi_wp2
      refine ⟨(fun h => by cases h), HRR.mono ?_⟩
      rintro e W3 (⟨rfl, hj3, hk3, hf3⟩ | ⟨rfl, hjx, hf3⟩)
      · have hkt : KeepsTop 1 (fun j => j = W.heap.size + 1 + 1) U W3 ∧ W3.heap[W.heap.size]? = some (.cells #[.func (.yield l) #[] #[]] 68 (0, 0)) ∧ W3.heap[W.heap.size + 1 + 1]? = some (.cells #[.int .i64 ((M - 1 : Nat) : Int)] 3 (0, 0)) ∧ W3.cell? ⟨Bm, 0, none⟩ = some (.int .i64 (M : Int)) :=
          ⟨⟨by have := hk3.size; omega, fun j o hj ho hc => hk3.same j o (by
              rcases hj with rfl | hj
              · exact .inl (.inr ⟨by omega, by omega⟩)
              · exact .inr (by omega)) (hUV j o ho hc) hc⟩,
            hk3.same _ _ (.inl (.inr ⟨Nat.le_refl _, by omega⟩)) HG.out.1 rfl, hk3.same _ _ (.inl (.inr ⟨by omega, by omega⟩)) HG.out.2.1 rfl,
            by rw [cell_of_row W3 Bm 0 cs t fr (hk3.same _ _ (.inl (.inl rfl)) HM.out.1 rfl)]; exact HM.out.2⟩
        have HK := Lib.hid (And.intro hkt (And.intro hj3 hf3))
        clear hkt hj3 hf3 hk3
        gi_wp2
        have hpx : ∀ y ∈ pre ++ [(⟨⟨f1, f2, f3, f4⟩, hwi⟩ : FkN N)], y.1.fin ≠ M := fun y hy => by
          rcases List.mem_append.1 hy with h | h
          · exact HP.out y h
          · obtain rfl := List.mem_singleton.1 h
            exact hf
        have hsz := HK.out.1.1.size
        exact ⟨⟨HK.out.2.2.size, fun j o hB hj ho => HK.out.2.2.same j o (by omega) hj ho⟩, HK.out.1.1, ⟨_, Nat.le_refl _, by omega, HK.out.2.1⟩, hpx, HK.out.1.2⟩
      · have HK := Lib.hid (And.intro hjx hf3)
        clear hjx hf3
        gi_wp2
        have hpx : ∀ y ∈ pre ++ [(⟨⟨f1, f2, f3, f4⟩, hwi⟩ : FkN N)], y.1.fin ≠ M := fun y hy => by
          rcases List.mem_append.1 hy with h | h
          · exact HP.out y h
          · obtain rfl := List.mem_singleton.1 h
            exact hf
        exact ⟨⟨HK.out.2.size, fun j o hB hj ho => HK.out.2.same j o (by omega) hj ho⟩, rfl, .inr ⟨hpx, HK.out.1⟩⟩

theorem edge_stops (n Bn Bm N M : Nat) (hn : 4 ≤ n) (hN : N < 9223372036854775808) (h1 : 1 ≤ M) (h2 : M ≤ N) (w : World)
    (hBn : w.cell? ⟨Bn, 0, none⟩ = some (.int .i64 (N : Int))) (hBm : w.cell? ⟨Bm, 0, none⟩ = some (.int .i64 (M : Int))) :
    SeqFar 1 2 5 (fun j => j = Bm) Fence.wide n Tryd.prog 49 #[.pointer (some ⟨Bn, 0, none⟩), .pointer (some ⟨Bm, 0, none⟩)] (fun x : FkN N => #[fkV x.1]) (fun ys => ys.map (·.1) = edgeF 64 0 N M) (fun pre => pre.map (·.1) <+: edgeF 64 0 N M) 64 w := fun l J Jx W hW hJ hJx hY h0 =>
  edge1_in n hn l Bn Bm N M hN h1 h2 J Jx W hJ hJx hY ((hW.cell (p := ⟨Bn, 0, none⟩) (block_lt_of_cell hBn)).trans hBn) ((hW.cell (p := ⟨Bm, 0, none⟩) (block_lt_of_cell hBm)).trans hBm) h0
end Go.Proofs.YtbaggjhjkignkaaDoor

