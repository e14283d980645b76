/-
  The contract of the package's forks: it yields the forks on the way down, the topmost one first.
-/
import Derived.Test.YtbaggjhjkignkaaDoorTop
import Derived.Test.YtbaggjhjkignkaaDoorFork
import Derived.Test.YtbaggjhjkignkaaDoorBlocks
namespace Go.Proofs.YtbaggjhjkignkaaDoor
open Go.RowKit Go.Shelf Tree

attribute [local go_sem] Oper.semAt_some

theorem grownBy_of_below {W W' : World} (h : Below W.heap.size W W') : W.grownBy W' none := ⟨h.os, h.tape, h.output, h.size, fun k hk _ => h.block k hk⟩
/-- A fork within N entries. -/
abbrev FkN (N : Nat) : Type := { f : Fk // f.within N }
/-- A fork's cells. -/
def fkC (f : Fk) : Array Value := #[.int .i64 f.first, .int .i64 f.half, .int .i64 f.fin, .bool f.left]

set_option maxRecDepth 100000 in
set_option maxHeartbeats 2000000 in
theorem forks1_in (n : Nat) (l Bn Bi N i : Nat) (hN : N < 9223372036854775808) (hi : i < N) (J Jx : List (FkN N) → World → Prop) (W : World) (hJ : AbidesFrom W.heap.size J)
    (hY : ∀ pre x Wb W1, J pre Wb → Wb.grownBy W1 none → Wb.heap.size + 1 ≤ W1.heap.size → pre.length < 64 → YieldAt Fence.wide (n - 1) Tryd.prog l #[fkV x.1] W1 fun e W' =>
      (e = .returned (.bool true) ∧ J (pre ++ [x]) W' ∧ KeepsTop 1 (fun j => j = Bi) W1 W') ∨ (e = .returned (.bool false) ∧ Jx (pre ++ [x]) W'))
    (hBn : W.cell? ⟨Bn, 0, none⟩ = some (.int .i64 (N : Int))) (hBi : W.cell? ⟨Bi, 0, none⟩ = some (.int .i64 (i : Int))) (h0 : J [] W) :
    CallsIn Fence.wide n Tryd.prog 48 #[.func (.yield l) #[] #[], .pointer (some ⟨Bn, 0, none⟩), .pointer (some ⟨Bi, 0, none⟩)] W fun e W' => (∃ v, e = .returned v) ∧
      ((∃ ys : List (FkN N), ys.map (·.1) = forksF 64 0 N i ∧ J ys W') ∨ (∃ pre : List (FkN N), pre.map (·.1) <+: forksF 64 0 N i ∧ Jx pre W')) := by
  refine callsIn_of_wp Tryd.func48 rfl trivial ?_ rfl
  simp only [Tryd.ntmps48, List.size_toArray, List.length_cons, List.length_nil, Nat.reduceAdd, Nat.reduceSub, Array.replicate_succ, Array.replicate_zero, List.push_toArray, List.append_toArray, List.nil_append, List.cons_append]
  gi_wp2
  gi_region
  gi_wp2
  obtain ⟨W1, hW1⟩ : ∃ V, V = W.drew := ⟨_, rfl⟩
  rw [← hW1]
  have hg1 : Below W.heap.size W W1 := by rw [hW1]; exact (Below.refl _ W).drew
  have hj1 : J [] W1 := hJ _ _ _ none h0 (grownBy_of_below hg1) (fun r e => by cases e)
  have hb1 : W1.cell? ⟨Bi, 0, none⟩ = some (.int .i64 (i : Int)) := (hg1.cell (p := ⟨Bi, 0, none⟩) (block_lt_of_cell hBi)).trans hBi
  clear hW1 hg1 h0 hBn hBi
  gi_loopw [4, 5] (fun a b wr => ∃ (pre : List (FkN N)) (m first fin : Nat), a = .int .i64 first ∧ b = .int .i64 fin ∧ forksF 64 0 N i = pre.map (·.1) ++ forksF m first fin i ∧ first ≤ i ∧ i < fin ∧ fin ≤ N ∧ fin - first ≤ 2 ^ m ∧ pre.length + m = 64 ∧ J pre wr ∧ wr.cell? ⟨Bi, 0, none⟩ = some (.int .i64 (i : Int)))
    (fun a b _ => (intOf b - intOf a).toNat)
  case atStart => exact ⟨[], 64, 0, N, rfl, rfl, rfl, by omega, hi, Nat.le_refl _, by omega, rfl, hj1, hb1⟩
  case round =>
    clear hj1 hb1
    obtain ⟨pre, m, first, fin, rfl, rfl, hF, h1, h2, h3, h4, h5, hj, hb⟩ := hrel
    have hsub : (fin : Int) - (first : Int) = ((fin - first : Nat) : Int) := by omega
    by_cases hd : 2 ≤ fin - first
    · cases m with
      | zero => simp at h4; omega
      | succ m =>
        have hp := leftN_pos (fin - first)
        have hq := leftN_lt hd
        have hh := leftN_half hd h4
        have hSP := split_any (fin - first)
        have HSP := Lib.hid (fun V => hSP V hd (by omega))
        clear hSP
        by_cases hil : i < first + leftN (fin - first)
        · rw [forksF_low _ _ _ _ hd hil] at hF
          have HF := Lib.hid hF
          clear hF
          generalize leftN (fin - first) = k at *
          have hpl : pre.length < 64 := by omega
          have hfk : fkV ⟨first, first + k, fin, true⟩ = .agg #[.int .i64 first, .int .i64 ((first : Int) + (k : Int)), .int .i64 fin, .bool true] := by simp [fkV]
          have hwi : Fk.within ⟨first, first + k, fin, true⟩ N := ⟨by show first < first + k; omega, by show first + k < fin; omega, h3⟩
          obtain ⟨fn, tmps, assign, body, hy, hR⟩ := hY pre ⟨⟨first, first + k, fin, true⟩, hwi⟩ wr (wr.alloc (.cells #[.int .i64 first, .int .i64 ((first : Int) + (k : Int)), .int .i64 fin, .bool true] 49)) hj (World.grownBy_alloc wr _ none) (by simp) hpl
          rw [hfk] at hy
          have hbi : (wr.alloc (.cells #[.int .i64 first, .int .i64 ((first : Int) + (k : Int)), .int .i64 fin, .bool true] 49)).cell? ⟨Bi, 0, none⟩ = some (.int .i64 (i : Int)) := (((Below.refl wr.heap.size wr).alloc (Nat.le_refl _) _).cell (p := ⟨Bi, 0, none⟩) (block_lt_of_cell hb)).trans hb
          have HBI := Lib.hid hbi
          clear hfk hbi
          have ht1 : (1 : Int) < ((fin - first : Nat) : Int) := by omega
          have hil' : (i : Int) < (first : Int) + (k : Int) := by omega
          gi_wp2_with (refine ⟨trivial, (fun h => by cases h), ?_⟩; gi_at_call 37; refine (callsIn_wide.2 (HSP.out _)).mono ?_; rintro e w' ⟨rfl, rfl⟩)
          refine ⟨(fun h => by cases h), hR.mono ?_⟩
          rintro e W3 (⟨rfl, hj3, hk3⟩ | ⟨rfl, hjx⟩)
          · have hf3 : W3.heap[wr.heap.size]? = some (.cells #[.int .i64 first, .int .i64 ((first : Int) + (k : Int)), .int .i64 fin, .bool true] 49 (0, 0)) := hk3.same _ _ (.inr (by simp)) (heap_alloc_new _ _) rfl
            have hb3 : W3.cell? ⟨Bi, 0, none⟩ = some (.int .i64 (i : Int)) := by
              obtain ⟨cs, t, fr, hr, hi0⟩ := row_of_cell HBI.out
              rw [cell_of_row W3 Bi 0 cs t fr (hk3.same Bi _ (.inl rfl) hr rfl)]; exact hi0
            have g0 : W3.cell? ⟨wr.heap.size, 0, none⟩ = some (.int .i64 first) := cell_of_row W3 _ 0 _ _ _ hf3
            have g1 : W3.cell? ⟨wr.heap.size, 1, none⟩ = some (.int .i64 ((first : Int) + (k : Int))) := cell_of_row W3 _ 1 _ _ _ hf3
            have g2 : W3.cell? ⟨wr.heap.size, 2, none⟩ = some (.int .i64 fin) := cell_of_row W3 _ 2 _ _ _ hf3
            have g3 : W3.cell? ⟨wr.heap.size, 3, none⟩ = some (.bool true) := cell_of_row W3 _ 3 _ _ _ hf3
            have hlt3 : wr.heap.size < W3.heap.size := (Array.getElem?_eq_some_iff.1 hf3).1
            have hnx := next_any ⟨first, first + k, fin, true⟩ W3
            rw [show fkV ⟨first, first + k, fin, true⟩ = .agg #[.int .i64 first, .int .i64 ((first : Int) + (k : Int)), .int .i64 fin, .bool true] by simp [fkV]] at hnx
            have HNX := Lib.hid hnx
            clear hnx hf3 HBI hk3 hy hR
            gi_wp2
            refine ⟨trivial, (fun h => by cases h), ?_⟩
            refine (callsIn_wide.2 HNX.out).mono ?_
            rintro e W4 ⟨rfl, hb4⟩
            have hj4 := hJ _ _ _ none hj3 (grownBy_of_below hb4) (fun r e => by cases e)
            have hb4i : W4.cell? ⟨Bi, 0, none⟩ = some (.int .i64 (i : Int)) := (hb4.cell (p := ⟨Bi, 0, none⟩) (block_lt_of_cell hb3)).trans hb3
            have g3' : W4.cell? ⟨wr.heap.size, 3, none⟩ = some (.bool true) := (hb4.cell (p := ⟨wr.heap.size, 3, none⟩) hlt3).trans g3
            have hne : Fk.next ⟨first, first + k, fin, true⟩ = first := rfl
            rw [hne]
            clear hne g0 g1 g2 g3 hb3 hj3 hb4 HNX
            gi_wp2
            go_roundw
            case rel => exact ⟨pre ++ [⟨⟨first, first + k, fin, true⟩, hwi⟩], m, first, first + k, by go_num, by go_num, by rw [HF.out, List.map_append, List.append_assoc]; rfl, by omega, by omega, by omega, by omega, by simp; omega, hj4, hb4i⟩
            case measure => simp [intOf]; omega
          · gi_wp2
            refine bodyPost_ret (results_none rfl _ _ _) rfl ?_
            exact ⟨⟨_, rfl⟩, .inr ⟨_, ⟨_, by rw [HF.out, List.map_append, List.append_assoc]; rfl⟩, hjx⟩⟩
        · rw [forksF_high _ _ _ _ hd hil] at hF
          have HF := Lib.hid hF
          clear hF
          generalize leftN (fin - first) = k at *
          have hpl : pre.length < 64 := by omega
          have hfk : fkV ⟨first, first + k, fin, false⟩ = .agg #[.int .i64 first, .int .i64 ((first : Int) + (k : Int)), .int .i64 fin, .bool false] := by simp [fkV]
          have hwi : Fk.within ⟨first, first + k, fin, false⟩ N := ⟨by show first < first + k; omega, by show first + k < fin; omega, h3⟩
          obtain ⟨fn, tmps, assign, body, hy, hR⟩ := hY pre ⟨⟨first, first + k, fin, false⟩, hwi⟩ wr (wr.alloc (.cells #[.int .i64 first, .int .i64 ((first : Int) + (k : Int)), .int .i64 fin, .bool false] 49)) hj (World.grownBy_alloc wr _ none) (by simp) hpl
          rw [hfk] at hy
          have hbi : (wr.alloc (.cells #[.int .i64 first, .int .i64 ((first : Int) + (k : Int)), .int .i64 fin, .bool false] 49)).cell? ⟨Bi, 0, none⟩ = some (.int .i64 (i : Int)) := (((Below.refl wr.heap.size wr).alloc (Nat.le_refl _) _).cell (p := ⟨Bi, 0, none⟩) (block_lt_of_cell hb)).trans hb
          have HBI := Lib.hid hbi
          clear hfk hbi
          have ht1 : (1 : Int) < ((fin - first : Nat) : Int) := by omega
          have hil' : decide ((i : Int) < (first : Int) + (k : Int)) = false := by simp; omega
          gi_wp2_with (refine ⟨trivial, (fun h => by cases h), ?_⟩; gi_at_call 37; refine (callsIn_wide.2 (HSP.out _)).mono ?_; rintro e w' ⟨rfl, rfl⟩)
          refine ⟨(fun h => by cases h), hR.mono ?_⟩
          rintro e W3 (⟨rfl, hj3, hk3⟩ | ⟨rfl, hjx⟩)
          · have hf3 : W3.heap[wr.heap.size]? = some (.cells #[.int .i64 first, .int .i64 ((first : Int) + (k : Int)), .int .i64 fin, .bool false] 49 (0, 0)) := hk3.same _ _ (.inr (by simp)) (heap_alloc_new _ _) rfl
            have hb3 : W3.cell? ⟨Bi, 0, none⟩ = some (.int .i64 (i : Int)) := by
              obtain ⟨cs, t, fr, hr, hi0⟩ := row_of_cell HBI.out
              rw [cell_of_row W3 Bi 0 cs t fr (hk3.same Bi _ (.inl rfl) hr rfl)]; exact hi0
            have g0 : W3.cell? ⟨wr.heap.size, 0, none⟩ = some (.int .i64 first) := cell_of_row W3 _ 0 _ _ _ hf3
            have g1 : W3.cell? ⟨wr.heap.size, 1, none⟩ = some (.int .i64 ((first : Int) + (k : Int))) := cell_of_row W3 _ 1 _ _ _ hf3
            have g2 : W3.cell? ⟨wr.heap.size, 2, none⟩ = some (.int .i64 fin) := cell_of_row W3 _ 2 _ _ _ hf3
            have g3 : W3.cell? ⟨wr.heap.size, 3, none⟩ = some (.bool false) := cell_of_row W3 _ 3 _ _ _ hf3
            have hlt3 : wr.heap.size < W3.heap.size := (Array.getElem?_eq_some_iff.1 hf3).1
            have hnx := next_any ⟨first, first + k, fin, false⟩ W3
            rw [show fkV ⟨first, first + k, fin, false⟩ = .agg #[.int .i64 first, .int .i64 ((first : Int) + (k : Int)), .int .i64 fin, .bool false] by simp [fkV]] at hnx
            have HNX := Lib.hid hnx
            clear hnx hf3 HBI hk3 hy hR
            gi_wp2
            refine ⟨trivial, (fun h => by cases h), ?_⟩
            refine (callsIn_wide.2 HNX.out).mono ?_
            rintro e W4 ⟨rfl, hb4⟩
            have hj4 := hJ _ _ _ none hj3 (grownBy_of_below hb4) (fun r e => by cases e)
            have hb4i : W4.cell? ⟨Bi, 0, none⟩ = some (.int .i64 (i : Int)) := (hb4.cell (p := ⟨Bi, 0, none⟩) (block_lt_of_cell hb3)).trans hb3
            have g3' : W4.cell? ⟨wr.heap.size, 3, none⟩ = some (.bool false) := (hb4.cell (p := ⟨wr.heap.size, 3, none⟩) hlt3).trans g3
            have hne : Fk.next ⟨first, first + k, fin, false⟩ = first + k := rfl
            rw [hne]
            clear hne g0 g1 g2 g3 hb3 hj3 hb4 HNX
            gi_wp2
            go_roundw
            case rel => exact ⟨pre ++ [⟨⟨first, first + k, fin, false⟩, hwi⟩], m, first + k, fin, by go_num, by go_num, by rw [HF.out, List.map_append, List.append_assoc]; rfl, by omega, by omega, by omega, by omega, by simp; omega, hj4, hb4i⟩
            case measure => simp [intOf]; omega
          · gi_wp2
            refine bodyPost_ret (results_none rfl _ _ _) rfl ?_
            exact ⟨⟨_, rfl⟩, .inr ⟨_, ⟨_, by rw [HF.out, List.map_append, List.append_assoc]; rfl⟩, hjx⟩⟩
    · have hF' : forksF 64 0 N i = pre.map (·.1) := by rw [hF, forksF_stop _ _ _ _ (by omega), List.append_nil]
      have HF := Lib.hid hF'
      have hdd : decide ((1 : Int) < ((fin - first : Nat) : Int)) = false := by simp; omega
      clear hF hF'
      gi_wp2
      go_end0
      exact ⟨⟨_, rfl⟩, .inl ⟨_, HF.out.symm, hj⟩⟩

theorem forks_in (n : Nat) (N i : Int) (w : World) :
    CallsIn Fence.wide n Tryd.prog 30 #[.int .i64 N, .int .i64 i] w fun e w' => e = .returned (.func (.func 48) #[] #[.pointer (some ⟨w.heap.size, 0, none⟩), .pointer (some ⟨w.heap.size + 1, 0, none⟩)]) ∧ w' = (w.alloc (.cells #[.int .i64 N] 3)).alloc (.cells #[.int .i64 i] 3) := by
  refine callsIn_of_wp Tryd.func30 rfl trivial ?_ rfl
  simp only [Tryd.ntmps30, List.size_toArray, List.length_cons, List.length_nil, Nat.reduceAdd, Nat.reduceSub, Array.replicate_succ, Array.replicate_zero, List.push_toArray, List.append_toArray, List.nil_append, List.cons_append]
  gi_wp2
  go_ret
  exact ⟨rfl, rfl⟩

theorem forks_stops (n Bn Bi N i : Nat) (hN : N < 9223372036854775808) (hi : i < N) (w : World)
    (hBn : w.cell? ⟨Bn, 0, none⟩ = some (.int .i64 (N : Int))) (hBi : w.cell? ⟨Bi, 0, none⟩ = some (.int .i64 (i : Int))) :
    SeqTop 1 (fun j => j = Bi) Fence.wide n Tryd.prog 48 #[.pointer (some ⟨Bn, 0, none⟩), .pointer (some ⟨Bi, 0, none⟩)] (fun x : FkN N => #[fkV x.1]) (fun ys => ys.map (·.1) = forksF 64 0 N i) (fun pre => pre.map (·.1) <+: forksF 64 0 N i) 64 w := fun l J Jx W hW hJ _ hY h0 =>
  forks1_in n l Bn Bi N i hN hi J Jx W hJ hY ((hW.cell (p := ⟨Bn, 0, none⟩) (block_lt_of_cell hBn)).trans hBn) ((hW.cell (p := ⟨Bi, 0, none⟩) (block_lt_of_cell hBi)).trans hBi) h0
end Go.Proofs.YtbaggjhjkignkaaDoor

