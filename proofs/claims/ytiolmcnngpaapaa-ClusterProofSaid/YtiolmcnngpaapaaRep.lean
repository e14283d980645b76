/-
  Contract of slices.Repeat of one integer.
-/
import Derived.Test.YtiolmcnngpaapaaBs
import Derived.WalkSpells
import Derived.StillTailTactics
import Derived.Laws.CopyOwn
import Derived.BigRegion
import Derived.Deep.DeepCutAuto
import Derived.Deep.RegionLaw
import Derived.Deep.RegionLawGrows
namespace Go.Proofs.Ytiolmcnngpaapaa
open Go.RowKit Cy

set_option maxRecDepth 100000 in
set_option maxHeartbeats 1000000 in
theorem mul64_small (n : Nat) (hn : n ≤ 32) (w : World) : Calls Try.prog 98 #[.int .u64 1, .int .u64 (n : Int)] w fun e w' => e = .returned (.tuple #[.int .u64 0, .int .u64 (n : Int)]) ∧ w = w' := by
  have : n = 0 ∨ n = 1 ∨ n = 2 ∨ n = 3 ∨ n = 4 ∨ n = 5 ∨ n = 6 ∨ n = 7 ∨ n = 8 ∨ n = 9 ∨ n = 10 ∨ n = 11 ∨ n = 12 ∨ n = 13 ∨ n = 14 ∨ n = 15 ∨ n = 16 ∨ n = 17 ∨ n = 18 ∨ n = 19 ∨ n = 20 ∨ n = 21 ∨ n = 22 ∨ n = 23 ∨ n = 24 ∨ n = 25 ∨ n = 26 ∨ n = 27 ∨ n = 28 ∨ n = 29 ∨ n = 30 ∨ n = 31 ∨ n = 32 := by omega
  rcases this with h | h | h | h | h | h | h | h | h | h | h | h | h | h | h | h | h | h | h | h | h | h | h | h | h | h | h | h | h | h | h | h | h <;> subst h <;>
  · go_enter Try.func98, Try.ntmps98
    go_wp2_with fail
    go_ret2
    exact ⟨rfl, rfl⟩
set_option maxRecDepth 100000 in
theorem mul_small (n : Nat) (hn : n ≤ 32) (w : World) : Calls Try.prog 96 #[.int .u64 1, .int .u64 (n : Int)] w fun e w' => e = .returned (.tuple #[.int .u64 0, .int .u64 (n : Int)]) ∧ w = w' := by
  have HM := Lib.hid (mul64_small n hn)
  go_enter Try.func96, Try.ntmps96
  go_wp2_with fail
  refine (HM.out _).mono ?_; rintro _ w1 ⟨rfl, rfl⟩
  go_wp2_with fail
  go_ret2
  exact ⟨rfl, rfl⟩
theorem make_ints (n : Nat) (hn : n ≤ 1000) (V : World) : (Instr.makeSlice 25 (.int .i64 (n : Int)) (.int .i64 (n : Int))).run Try.prog V = .ok (.slice (some ⟨V.heap.size, 0, none⟩) n n) (V.alloc (.cells (Array.replicate n (Value.int .i64 0)) 3)) := by
  obtain ⟨i0, hi, hz0, hz1, hz2⟩ := info_parts info_int
  have := run_make (P := Try.prog) V 25 3 i0 (.int .i64 0) Try.underlying25 hi hz0 .i64 .i64 n n (by omega) (by omega) (by rw [hz2]; omega) (by omega)
  rw [this, hz1, show (madeCells (Value.int .i64 0).cells ((n : Int).toNat * 1)) = Array.replicate n (Value.int .i64 0) from by
    apply Array.toList_inj.1
    rw [show (Value.int .i64 0).cells = #[Value.int .i64 0] from rfl, toList_madeCells_one]; simp]
  simp
theorem size_int : (Try.prog.info? 3).map (·.size) = some 1 := by kernel_rfl
/-- The first m of n are v, the rest 0. -/
def part (v : Int) (m n : Nat) : List Int := List.replicate m v ++ List.replicate (n - m) 0
def RepPost (v : Int) (n : Nat) (w : World) (e : Ending) (w' : World) : Prop := ∃ g, e = .returned (.slice (some ⟨g, 0, none⟩) n n) ∧ w'.heap[g]? = some (.cells ((List.replicate n v).map (Value.int .i64)).toArray 3) ∧ w.heap.size ≤ g ∧ Below w.heap.size w w'
set_option maxRecDepth 100000 in
theorem conv_u (n : Nat) (hn : n ≤ 32) (w : World) : (convert 3 129 (.int .i64 (n : Int))).run Try.prog w = .ok (.int .u64 (n : Int)) w := by
  have : n = 0 ∨ n = 1 ∨ n = 2 ∨ n = 3 ∨ n = 4 ∨ n = 5 ∨ n = 6 ∨ n = 7 ∨ n = 8 ∨ n = 9 ∨ n = 10 ∨ n = 11 ∨ n = 12 ∨ n = 13 ∨ n = 14 ∨ n = 15 ∨ n = 16 ∨ n = 17 ∨ n = 18 ∨ n = 19 ∨ n = 20 ∨ n = 21 ∨ n = 22 ∨ n = 23 ∨ n = 24 ∨ n = 25 ∨ n = 26 ∨ n = 27 ∨ n = 28 ∨ n = 29 ∨ n = 30 ∨ n = 31 ∨ n = 32 := by omega
  rcases this with h | h | h | h | h | h | h | h | h | h | h | h | h | h | h | h | h | h | h | h | h | h | h | h | h | h | h | h | h | h | h | h | h <;> subst h <;> rfl
set_option maxRecDepth 100000 in
theorem conv_i (n : Nat) (hn : n ≤ 32) (w : World) : (convert 129 3 (.int .u64 (n : Int))).run Try.prog w = .ok (.int .i64 (n : Int)) w := by
  have : n = 0 ∨ n = 1 ∨ n = 2 ∨ n = 3 ∨ n = 4 ∨ n = 5 ∨ n = 6 ∨ n = 7 ∨ n = 8 ∨ n = 9 ∨ n = 10 ∨ n = 11 ∨ n = 12 ∨ n = 13 ∨ n = 14 ∨ n = 15 ∨ n = 16 ∨ n = 17 ∨ n = 18 ∨ n = 19 ∨ n = 20 ∨ n = 21 ∨ n = 22 ∨ n = 23 ∨ n = 24 ∨ n = 25 ∨ n = 26 ∨ n = 27 ∨ n = 28 ∨ n = 29 ∨ n = 30 ∨ n = 31 ∨ n = 32 := by omega
  rcases this with h | h | h | h | h | h | h | h | h | h | h | h | h | h | h | h | h | h | h | h | h | h | h | h | h | h | h | h | h | h | h | h | h <;> subst h <;> rfl
set_option maxRecDepth 100000 in
set_option maxHeartbeats 1000000 in
theorem repeat_any (v : Int) (n b : Nat) (h1 : 1 ≤ n) (hn : n ≤ 32) (w : World) (hb : w.cell? ⟨b, 0, none⟩ = some (.int .i64 v)) :
    Calls Try.prog 95 #[.slice (some ⟨b, 0, none⟩) 1 1, .int .i64 (n : Int)] w (RepPost v n w) := by
  have HM := Lib.hid (mul_small n hn)
  have hmk := make_ints n (by omega)
  have c1 := conv_u n hn
  have c2 := conv_u 1 (by omega)
  have c3 := conv_i n hn
  have n0 : (0 : Int) ≤ (n : Int) := by omega
  have n1 : (n : Int) ≤ 32 := by omega
  have HB := Lib.hid hb
  clear hb
  go_enter Try.func95, Try.ntmps95
  go_wp2_with fail
  refine (HM.out _).mono ?_; rintro _ w1 ⟨rfl, rfl⟩
  go_upto_region 7 with (fail)
  have HG := Lib.hid (below_new w (.cells (Array.replicate n (Value.int .i64 0)) 3))
  have HN := Lib.hid (show (w.alloc (.cells (Array.replicate n (Value.int .i64 0)) 3)).heap[w.heap.size]? = some (.cells (List.replicate n (Value.int .i64 0)).toArray 3) from by rw [List.toArray_replicate]; exact heap_alloc_new w _)
  have HBc := Lib.hid (cell_below HG.out HB.out)
  clear hmk c1 c2 c3
  generalize w.alloc (.cells (Array.replicate n (Value.int .i64 0)) 3) = W1 at *
  have Q1 := Lib.hid (show ([Value.int .i64 v] : List Value).length = Nat.min 1 n from (Nat.min_eq_left h1).symm)
  have Q2 := Lib.hid (show ∀ (j : Nat) (u : Value), ([Value.int .i64 v] : List Value)[j]? = some u → W1.cell? ((⟨b, 0, none⟩ : Addr).add j) = some u from fun j u hu => by
    match j, hu with
    | 0, hu => simp only [List.getElem?_cons_zero, Option.some.injEq] at hu; subst hu; exact HBc.out)
  have Q3 := Lib.hid (show 0 + ([Value.int .i64 v] : List Value).length ≤ (List.replicate n (Value.int .i64 0)).length by simp; omega)
  have Q4 := Lib.hid (show ∀ u ∈ ([Value.int .i64 v] : List Value), u.oneCell' = true from by intro u hu; simp at hu; subst hu; rfl)
  go_wp2_with (with_reducible refine wpList_copy_splice rfl (.tmp 31) (.tmp 32) 25 25 rfl 3 Try.underlying25 size_int _ _ n n 1 1 rfl rfl w.heap.size 0 (List.replicate n (Value.int .i64 0)) 3 HN.out [.int .i64 v] Q1.out (fun _ => ⟨rfl, _, rfl, Q2.out⟩) Q3.out Q4.out w.heap.size w HG.out (Nat.le_refl _) ?_; intro w2 H2 B2)
  clear Q1 Q2 Q3 Q4
  have HB2 := Lib.hid B2
  have HP := Lib.hid (show w2.heap[w.heap.size]? = some (.cells ((part v 1 n).map (Value.int .i64)).toArray 3) from by
    rw [H2.out]; congr 2
    unfold splice part
    obtain ⟨k, rfl⟩ : ∃ k, n = k + 1 := ⟨n - 1, by omega⟩
    simp [List.replicate_succ])
  clear H2 B2 HN HBc HG
  go_wp2_with fail
  go_loopw [8] (fun m wr => ∃ k : Nat, 1 ≤ k ∧ k ≤ n ∧ m = .int .i64 (k : Int) ∧ Hid (wr.heap[w.heap.size]? = some (.cells ((part v k n).map (Value.int .i64)).toArray 3)) ∧ Hid (Below w.heap.size w wr)) (fun m _ => n - (intOf m).toNat)
  case atStart => exact ⟨1, Nat.le_refl _, h1, rfl, HP, HB2⟩
  case round =>
    clear HP HB2
    obtain ⟨k, hk1, hk, rfl, HP, HG⟩ := hrel
    by_cases hlt : k < n
    · have k0 : (0 : Int) ≤ (k : Int) := by omega
      have k1 : (k : Int) < (n : Int) := by omega
      have k2 : (k : Int) ≤ (n : Int) := by omega
      have HPd := Lib.hid (show wr.drew.heap[w.heap.size]? = some (.cells ((part v k n).map (Value.int .i64)).toArray 3) from HP.out)
      have HGd := Lib.hid (show Below w.heap.size w wr.drew from HG.out.drew)
      have hle : (part v k n).length = n := by unfold part; simp; omega
      obtain ⟨q, hq, q1, q2, q3⟩ : ∃ q : Nat, q = Nat.min k (n - k) ∧ q ≤ k ∧ q ≤ n - k ∧ 1 ≤ q := by
        refine ⟨min k (n - k), rfl, ?_, ?_, ?_⟩ <;> omega
      have Q1 := Lib.hid (show (List.replicate q (Value.int .i64 v)).length = Nat.min k (n - k) from by rw [← hq]; simp)
      have Q2 := Lib.hid (show ∀ (j : Nat) (u : Value), (List.replicate q (Value.int .i64 v))[j]? = some u → wr.drew.cell? ((⟨w.heap.size, 0, none⟩ : Addr).add j) = some u from fun j u hu => by
        have e : ((⟨w.heap.size, 0, none⟩ : Addr).add j) = ⟨w.heap.size, j, none⟩ := by cases j <;> simp [Addr.add]
        rw [e]
        refine box_cell HPd.out j u ?_
        rw [List.getElem?_replicate] at hu
        split at hu
        · rename_i hj
          injection hu with hu; subst hu
          unfold part
          rw [List.getElem?_toArray, List.getElem?_map, List.getElem?_append_left (by simp; omega), List.getElem?_replicate, if_pos (by omega)]; rfl
        · cases hu)
      have Q3 := Lib.hid (show k + (List.replicate q (Value.int .i64 v)).length ≤ ((part v k n).map (Value.int .i64)).length by
        rw [List.length_map, hle, List.length_replicate]; omega)
      have Q4 := Lib.hid (show ∀ u ∈ List.replicate q (Value.int .i64 v), u.oneCell' = true from by intro u hu; rw [List.mem_replicate] at hu; rw [hu.2]; rfl)
      have Q5 := Lib.hid (show splice ((part v k n).map (Value.int .i64)) k (List.replicate q (Value.int .i64 v)) = (part v (k + q) n).map (Value.int .i64) from by
        unfold splice part
        simp only [List.map_append, List.map_replicate, List.length_replicate]
        rw [List.take_left' (by simp), List.drop_append, List.length_replicate, List.drop_of_length_le (by simp), List.nil_append, List.drop_replicate, ← List.append_assoc, List.replicate_append_replicate]
        congr 2; omega)
      have hcp := run_copy_row (P := Try.prog) wr.drew 25 25 3 3 w.heap.size k (n - k) (n - k) ⟨w.heap.size, 0, none⟩ k n ((part v k n).map (Value.int .i64)).toArray 3 (List.replicate q (Value.int .i64 v)) Try.underlying25 size_int HPd.out Q1.out Q2.out (by simpa using Q3.out) Q4.out
      have HP3 := Lib.hid (show (wr.drew.setRow w.heap.size ((((part v k n).map (Value.int .i64)).toArray.toList.take k ++ List.replicate q (Value.int .i64 v) ++ ((part v k n).map (Value.int .i64)).toArray.toList.drop (k + (List.replicate q (Value.int .i64 v)).length))).toArray).heap[w.heap.size]? = some (.cells ((part v (k + q) n).map (Value.int .i64)).toArray 3) from by
        rw [setRow_heap _ _ _ _ _ _ HPd.out, ← Q5.out]; unfold splice; rw [List.append_assoc])
      have HB3 := Lib.hid (below_setRow (g := w.heap.size) HGd.out (Nat.le_refl _) ((((part v k n).map (Value.int .i64)).toArray.toList.take k ++ List.replicate q (Value.int .i64 v) ++ ((part v k n).map (Value.int .i64)).toArray.toList.drop (k + (List.replicate q (Value.int .i64 v)).length))).toArray)
      generalize wr.drew.setRow w.heap.size ((((part v k n).map (Value.int .i64)).toArray.toList.take k ++ List.replicate q (Value.int .i64 v) ++ ((part v k n).map (Value.int .i64)).toArray.toList.drop (k + (List.replicate q (Value.int .i64 v)).length))).toArray = w3 at *
      have Q6 := Lib.hid q3
      have Q7 := Lib.hid (show k + q ≤ n by omega)
      clear hle hq q3
      have q4 : q ≤ 32 := by omega
      have hne : ¬ n = k := by omega
      go_wp2_with fail
      have e1 : IntKind.i64.wrap ((k : Int) + (q : Int)) = (k : Int) + (q : Int) := IntWalk.i64_in _ (by omega)
      go_region_law (fail)
      clear hcp
      go_simp
      try clear e1
      go_wp2_with fail
      go_roundw
      case rel => exact ⟨k + q, by have := Q6.out; omega, Q7.out, by go_num, HP3, HB3⟩
      case measure => have := Q6.out; simp [intOf]; omega
    · obtain rfl : k = n := by omega
      have k1 : ¬ (k : Int) < (k : Int) := by omega
      go_wp2_with fail
      go_ret
      exact ⟨_, rfl, by rw [HP.out]; simp [part], Nat.le_refl _, HG.out⟩
end Go.Proofs.Ytiolmcnngpaapaa

