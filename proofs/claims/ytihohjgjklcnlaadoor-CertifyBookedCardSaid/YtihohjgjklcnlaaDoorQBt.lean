/-
  putList, of stages and of windows. Written by tools/l09_put.py.
  planText.
-/
import Derived.Test.YtihohjgjklcnlaaDoorQBs
namespace Go.Proofs.YtihohjgjklcnlaaDoor
open Go.RowKit Go.Shelf
attribute [local go_sem] Oper.semAt_some
def numsS (x : Pl.Stage) : List Int := [x.mn, x.mx, x.m.tool, x.m.start, x.s.tool, x.s.start]
def numsW (x : Pl.Win) : List Int := [x.f, x.t, x.lim]
def numsB (l : List Int) : List UInt8 := l.flatMap numB
theorem numsB_snoc (l : List Int) (n : Int) : numsB (l ++ [n]) = numsB l ++ numB n := by simp [numsB]
/-- What putList puts. -/
def listS (L : List Pl.Stage) : List UInt8 := numB L.length ++ L.flatMap fun x => numsB (numsS x)
def listW (L : List Pl.Win) : List UInt8 := numB L.length ++ L.flatMap fun x => numsB (numsW x)
/-- Numbers whose bytes are few. -/
def Few10 (n : Int) : Prop := (numB n).length ≤ 10
theorem numsB_len {l : List Int} (h : ∀ n ∈ l, Few10 n) : (numsB l).length ≤ l.length * 10 := by
  induction l with
  | nil => simp [numsB]
  | cons a l ih =>
    have h1 := h a (by simp)
    have h2 := ih (fun n hn => h n (List.mem_cons_of_mem _ hn))
    unfold Few10 at h1
    simp only [numsB, List.flatMap_cons, List.length_append, List.length_cons] at *
    omega
theorem ptr_at {n j k : Nat} (h : j < k) : ((List.range k).map fun i => Value.pointer (some ⟨n, 0 + i, none⟩)).toArray[j]? = some (.pointer (some ⟨n, j, none⟩)) := by simp [h]
def PutPost (B : Nat) (acc out : List UInt8) (w : World) (e : Ending) (w' : World) : Prop :=
  e = .returned (.tuple #[]) ∧ BldAt B (acc ++ out) w' ∧ Below B w w' ∧ Lib.OthersKept 5 (some B) w w'

theorem numS_at (x : Pl.Stage) : ∀ (j : Nat) (h : j < 6), (#[.int .i64 x.mn, .int .i64 x.mx, .int .i64 x.m.tool, .int .i64 x.m.start, .int .i64 x.s.tool, .int .i64 x.s.start] : Array Value)[j]? = some (.int .i64 ((numsS x)[j]'h))
  | 0, _ => rfl | 1, _ => rfl | 2, _ => rfl | 3, _ => rfl | 4, _ => rfl | 5, _ => rfl | n + 6, h => absurd h (by omega)
theorem flatS_len {L : List Pl.Stage} (h : ∀ x ∈ L, ∀ n ∈ numsS x, Few10 n) : (L.flatMap fun x => numsB (numsS x)).length ≤ L.length * 60 := by
  induction L with
  | nil => simp
  | cons a l ih =>
    have h1 := numsB_len (h a (by simp))
    have h2 := ih (fun x hx => h x (List.mem_cons_of_mem _ hx))
    rw [show (numsS a).length = 6 from rfl] at h1
    rw [List.flatMap_cons, List.length_append, List.length_cons]
    omega
set_option maxRecDepth 100000 in
set_option maxHeartbeats 2000000 in
theorem putListS_any (B : Nat) (acc : List UInt8) (L : List Pl.Stage) (a : Option Addr) (c : Nat) (w0 w : World) (hB : w0.heap.size ≤ B) (h : BldAt B acc w) (hw : Below w0.heap.size w0 w) (hA : StA w0 a c L) (hL : L.length ≤ 100) (hacc : acc.length ≤ 100000) (hf : Few10 L.length) (hn : ∀ x ∈ L, ∀ n ∈ numsS x, Few10 n) :
    Calls Tryd.prog 72 #[.func (.func 68) #[] #[.pointer (some ⟨B, 0, none⟩)], .slice a L.length c, .func (.func 73) #[] #[]] w (PutPost B acc (listS L) w) := by
  have HP := Lib.hid (put_any B acc L.length w h (by omega) (by unfold Few10 at hf; omega))
  have HA := Lib.hid hA; have HW := Lib.hid hw; have HB := Lib.hid hB
  have HN := Lib.hid hn
  have HLT := Lib.hid h.lt
  have HACC := Lib.hid hacc
  have HF := Lib.hid hf
  clear h hA hw hB hn hacc hf
  go_enter Tryd.func72, Tryd.ntmps72
  go_wp2_with fail
  refine HP.out.mono ?_; rintro e w1 ⟨rfl, h1, g1, k1⟩
  have B1 := Lib.hid (show BldAt B ((acc ++ numB L.length) ++ (L.take 0).flatMap (fun x => numsB (numsS x))) w1 ∧ Below B w w1 ∧ Lib.OthersKept 5 (some B) w w1 from ⟨by simpa using h1, g1, k1⟩)
  clear h1 g1 k1 HP
  go_wp2_with fail
  go_loopw [16] (fun i wr => ∃ k : Nat, k ≤ L.length ∧ i = .int .i64 (k : Int) ∧ Hid (BldAt B ((acc ++ numB L.length) ++ (L.take k).flatMap (fun x => numsB (numsS x))) wr ∧ Below B w wr ∧ Lib.OthersKept 5 (some B) w wr)) (fun i _ => L.length - (intOf i).toNat)
  case atStart => exact ⟨0, Nat.zero_le _, rfl, B1⟩
  case round =>
    obtain ⟨k, hk, rfl, HK⟩ := hrel
    rename World => wr
    by_cases hlt : k < L.length
    · obtain ⟨sb, so, rfl, hsb, hc⟩ := (HA.out.below (HW.out.trans (Below.mono HK.out.2.1 HB.out))).at (show 0 < L.length by omega)
      obtain ⟨s0, s1, s2, s3, s4, s5⟩ := st_cells (hc k hlt)
      have HT := Lib.hid (show (acc ++ numB L.length) ++ (L.take (k + 1)).flatMap (fun x => numsB (numsS x)) = ((acc ++ numB L.length) ++ (L.take k).flatMap (fun x => numsB (numsS x))) ++ numsB (numsS L[k]) by rw [List.take_succ_eq_append_getElem hlt, List.flatMap_append]; simp [List.append_assoc])
      have HFx := Lib.hid (HN.out L[k] (List.getElem_mem hlt))
      have HM := Lib.hid (show ((acc ++ numB L.length) ++ (L.take k).flatMap (fun x => numsB (numsS x))).length ≤ 110000 by
        have h1 := flatS_len (L := L.take k) (fun x hx => HN.out x (List.mem_of_mem_take hx))
        have h2 := HACC.out; have h3 := HF.out
        unfold Few10 at h3
        rw [List.length_take] at h1
        rw [List.length_append, List.length_append]; omega)
      generalize (acc ++ numB L.length) ++ (L.take k).flatMap (fun x => numsB (numsS x)) = A at *
      clear hc B1
      generalize L[k] = x at *
      have i1 : (0 : Int) ≤ (k : Int) := by omega
      have i2 : (k : Int) < (L.length : Int) := by omega
      have i4 : ((k : Int)).toNat = k := by omega
      go_upto_region 4 with (fail)
      have HX := Lib.hid (heap_alloc_new wr (stageObj x))
      have hb2 := below_new wr (stageObj x)
      have HK2 := Lib.hid (show BldAt B A (wr.alloc (stageObj x)) ∧ Below B w (wr.alloc (stageObj x)) ∧ Lib.OthersKept 5 (some B) w (wr.alloc (stageObj x)) from ⟨HK.out.1.below hb2, HK.out.2.1.trans (Below.mono hb2 (Nat.le_of_lt HK.out.1.lt)), HK.out.2.2.trans (kept_of_below hb2)⟩)
      have HBx := Lib.hid HK.out.1.lt
      have eL : wr.alloc (.cells #[.int .i64 x.mn, .int .i64 x.mx, .int .i64 x.m.tool, .int .i64 x.m.start, .int .i64 x.s.tool, .int .i64 x.s.start] 45) = wr.alloc (stageObj x) := rfl
      rw [eL]
      clear eL hb2 HK s0 s1 s2 s3 s4 s5
      generalize wr.alloc (stageObj x) = w2 at *
      generalize wr.heap.size = nx at *
      go_wp2_with fail
      refine (stageNumbers_any nx 0 w2).mono ?_; rintro e w3 ⟨rfl, hrow, g3⟩
      have HBr := Lib.hid HK2.out.1.lt
      have Q0 := Lib.hid (show BldAt B (A ++ numsB ((numsS x).take 0)) w3 ∧ Below B w w3 ∧ Lib.OthersKept 5 (some B) w w3 ∧ w3.heap[nx]? = some (stageObj x) ∧ w3.heap[w2.heap.size]? = some (.cells ((List.range 6).map fun i => Value.pointer (some ⟨nx, 0 + i, none⟩)).toArray 138) from ⟨by simpa [numsB] using HK2.out.1.below g3, HK2.out.2.1.trans (Below.mono g3 (Nat.le_of_lt HK2.out.1.lt)), HK2.out.2.2.trans (kept_of_below g3), box_below HX.out g3, hrow⟩)
      clear hrow g3 HX HK2
      generalize w2.heap.size = nr at *
      go_wp2_with fail
      go_loopw [23] (fun i wq => ∃ j : Nat, j ≤ 6 ∧ i = .int .i64 (j : Int) ∧ Hid (BldAt B (A ++ numsB ((numsS x).take j)) wq ∧ Below B w wq ∧ Lib.OthersKept 5 (some B) w wq ∧ wq.heap[nx]? = some (stageObj x) ∧ wq.heap[nr]? = some (.cells ((List.range 6).map fun i => Value.pointer (some ⟨nx, 0 + i, none⟩)).toArray 138))) (fun i _ => 6 - (intOf i).toNat)
      case atStart => exact ⟨0, Nat.zero_le _, rfl, Q0⟩
      case round =>
        obtain ⟨j, hj, rfl, HQ⟩ := hrel
        rename World => wq
        by_cases hj6 : j < 6
        · have r0 := box_cell HQ.out.2.2.2.2 j (.pointer (some ⟨nx, j, none⟩)) (ptr_at hj6)
          have p0 := box_cell HQ.out.2.2.2.1 j _ (numS_at x j hj6)
          have HT2 := Lib.hid (show numsB ((numsS x).take (j + 1)) = numsB ((numsS x).take j) ++ numB ((numsS x)[j]'hj6) by rw [List.take_succ_eq_append_getElem (show j < (numsS x).length from hj6), numsB_snoc]; rfl)
          have HFn := Lib.hid (HFx.out ((numsS x)[j]'hj6) (List.getElem_mem _))
          have HM2 := Lib.hid (show (A ++ numsB ((numsS x).take j)).length ≤ 200000 by
            have h1 := numsB_len (l := (numsS x).take j) (fun n hn => HFx.out n (List.mem_of_mem_take hn))
            have h2 := HM.out
            rw [List.length_take] at h1
            rw [List.length_append]; omega)
          generalize (numsS x)[j]'hj6 = n at *
          have PU := Lib.hid (put_any B (A ++ numsB ((numsS x).take j)) n wq HQ.out.1 (by have := HM2.out; omega) (by have := HFn.out; unfold Few10 at this; omega))
          have j1 : (0 : Int) ≤ (j : Int) := by omega
          have j2 : (j : Int) < 6 := by omega
          have j4 : ((j : Int)).toNat = j := by omega
          go_wp2_with fail
          refine PU.out.mono ?_; rintro e w5 ⟨rfl, h5, g5, k5⟩
          have Q5 := Lib.hid (show BldAt B (A ++ numsB ((numsS x).take (j + 1))) w5 ∧ Below B w w5 ∧ Lib.OthersKept 5 (some B) w w5 ∧ w5.heap[nx]? = some (stageObj x) ∧ w5.heap[nr]? = some (.cells ((List.range 6).map fun i => Value.pointer (some ⟨nx, 0 + i, none⟩)).toArray 138) from
            ⟨by rw [HT2.out, ← List.append_assoc]; exact h5, HQ.out.2.1.trans g5, HQ.out.2.2.1.trans k5, k5 _ _ HQ.out.2.2.2.1 (by have := HBx.out; simp; omega) (fun c fz h => by injection h with _ h2; exact absurd h2 (by decide)), k5 _ _ HQ.out.2.2.2.2 (by have := HBr.out; simp; omega) (fun c fz h => by injection h with _ h2; exact absurd h2 (by decide))⟩)
          clear h5 g5 k5 PU HQ r0 p0 HM2 HFn
          go_wp2_with fail
          go_roundw
          case rel => exact ⟨j + 1, by omega, by go_num, Q5⟩
          case measure => simp [intOf]; omega
        · have j5 : ¬ (j : Int) < 6 := by omega
          have HJ := Lib.hid (show j = 6 by omega)
          have HF2 := Lib.hid (show BldAt B ((acc ++ numB L.length) ++ (L.take (k + 1)).flatMap (fun x => numsB (numsS x))) wq ∧ Below B w wq ∧ Lib.OthersKept 5 (some B) w wq from ⟨by
            have h1 := HQ.out.1
            rw [HJ.out, List.take_of_length_le (show (numsS x).length ≤ 6 from Nat.le_refl _), ← HT.out] at h1
            exact h1, HQ.out.2.1, HQ.out.2.2.1⟩)
          clear HQ Q0 HJ HT
          go_wp2_with fail
          go_roundw
          case rel => exact ⟨k + 1, by omega, by go_num, HF2⟩
          case measure => simp [intOf]; omega
    · have hkl : k = L.length := by omega
      subst hkl
      have HE := Lib.hid (show (acc ++ numB L.length) ++ (L.take L.length).flatMap (fun x => numsB (numsS x)) = acc ++ listS L by rw [List.take_length, List.append_assoc]; rfl)
      rw [HE.out] at HK
      have i5 : ¬ (L.length : Int) < (L.length : Int) := by omega
      go_wp2_with fail
      refine bodyPost_ret (results_none rfl _ _ _) rfl ?_
      exact ⟨rfl, HK.out⟩

theorem numW_at (x : Pl.Win) : ∀ (j : Nat) (h : j < 3), (#[.int .i64 x.f, .int .i64 x.t, .int .i64 x.lim] : Array Value)[j]? = some (.int .i64 ((numsW x)[j]'h))
  | 0, _ => rfl | 1, _ => rfl | 2, _ => rfl | n + 3, h => absurd h (by omega)
theorem flatW_len {L : List Pl.Win} (h : ∀ x ∈ L, ∀ n ∈ numsW x, Few10 n) : (L.flatMap fun x => numsB (numsW x)).length ≤ L.length * 30 := by
  induction L with
  | nil => simp
  | cons a l ih =>
    have h1 := numsB_len (h a (by simp))
    have h2 := ih (fun x hx => h x (List.mem_cons_of_mem _ hx))
    rw [show (numsW a).length = 3 from rfl] at h1
    rw [List.flatMap_cons, List.length_append, List.length_cons]
    omega
set_option maxRecDepth 100000 in
set_option maxHeartbeats 2000000 in
theorem putListW_any (B : Nat) (acc : List UInt8) (L : List Pl.Win) (a : Option Addr) (c : Nat) (w0 w : World) (hB : w0.heap.size ≤ B) (h : BldAt B acc w) (hw : Below w0.heap.size w0 w) (hA : WnA w0 a c L) (hL : L.length ≤ 100) (hacc : acc.length ≤ 100000) (hf : Few10 L.length) (hn : ∀ x ∈ L, ∀ n ∈ numsW x, Few10 n) :
    Calls Tryd.prog 74 #[.func (.func 68) #[] #[.pointer (some ⟨B, 0, none⟩)], .slice a L.length c, .func (.func 75) #[] #[]] w (PutPost B acc (listW L) w) := by
  have HP := Lib.hid (put_any B acc L.length w h (by omega) (by unfold Few10 at hf; omega))
  have HA := Lib.hid hA; have HW := Lib.hid hw; have HB := Lib.hid hB
  have HN := Lib.hid hn
  have HLT := Lib.hid h.lt
  have HACC := Lib.hid hacc
  have HF := Lib.hid hf
  clear h hA hw hB hn hacc hf
  go_enter Tryd.func74, Tryd.ntmps74
  go_wp2_with fail
  refine HP.out.mono ?_; rintro e w1 ⟨rfl, h1, g1, k1⟩
  have B1 := Lib.hid (show BldAt B ((acc ++ numB L.length) ++ (L.take 0).flatMap (fun x => numsB (numsW x))) w1 ∧ Below B w w1 ∧ Lib.OthersKept 5 (some B) w w1 from ⟨by simpa using h1, g1, k1⟩)
  clear h1 g1 k1 HP
  go_wp2_with fail
  go_loopw [16] (fun i wr => ∃ k : Nat, k ≤ L.length ∧ i = .int .i64 (k : Int) ∧ Hid (BldAt B ((acc ++ numB L.length) ++ (L.take k).flatMap (fun x => numsB (numsW x))) wr ∧ Below B w wr ∧ Lib.OthersKept 5 (some B) w wr)) (fun i _ => L.length - (intOf i).toNat)
  case atStart => exact ⟨0, Nat.zero_le _, rfl, B1⟩
  case round =>
    obtain ⟨k, hk, rfl, HK⟩ := hrel
    rename World => wr
    by_cases hlt : k < L.length
    · obtain ⟨sb, so, rfl, hsb, hc⟩ := (HA.out.below (HW.out.trans (Below.mono HK.out.2.1 HB.out))).at (show 0 < L.length by omega)
      obtain ⟨s0, s1, s2⟩ := wn_cells (hc k hlt)
      have HT := Lib.hid (show (acc ++ numB L.length) ++ (L.take (k + 1)).flatMap (fun x => numsB (numsW x)) = ((acc ++ numB L.length) ++ (L.take k).flatMap (fun x => numsB (numsW x))) ++ numsB (numsW L[k]) by rw [List.take_succ_eq_append_getElem hlt, List.flatMap_append]; simp [List.append_assoc])
      have HFx := Lib.hid (HN.out L[k] (List.getElem_mem hlt))
      have HM := Lib.hid (show ((acc ++ numB L.length) ++ (L.take k).flatMap (fun x => numsB (numsW x))).length ≤ 110000 by
        have h1 := flatW_len (L := L.take k) (fun x hx => HN.out x (List.mem_of_mem_take hx))
        have h2 := HACC.out; have h3 := HF.out
        unfold Few10 at h3
        rw [List.length_take] at h1
        rw [List.length_append, List.length_append]; omega)
      generalize (acc ++ numB L.length) ++ (L.take k).flatMap (fun x => numsB (numsW x)) = A at *
      clear hc B1
      generalize L[k] = x at *
      have i1 : (0 : Int) ≤ (k : Int) := by omega
      have i2 : (k : Int) < (L.length : Int) := by omega
      have i4 : ((k : Int)).toNat = k := by omega
      go_upto_region 4 with (fail)
      have HX := Lib.hid (heap_alloc_new wr (winObj x))
      have hb2 := below_new wr (winObj x)
      have HK2 := Lib.hid (show BldAt B A (wr.alloc (winObj x)) ∧ Below B w (wr.alloc (winObj x)) ∧ Lib.OthersKept 5 (some B) w (wr.alloc (winObj x)) from ⟨HK.out.1.below hb2, HK.out.2.1.trans (Below.mono hb2 (Nat.le_of_lt HK.out.1.lt)), HK.out.2.2.trans (kept_of_below hb2)⟩)
      have HBx := Lib.hid HK.out.1.lt
      have eL : wr.alloc (.cells #[.int .i64 x.f, .int .i64 x.t, .int .i64 x.lim] 49) = wr.alloc (winObj x) := rfl
      rw [eL]
      clear eL hb2 HK s0 s1 s2
      generalize wr.alloc (winObj x) = w2 at *
      generalize wr.heap.size = nx at *
      go_wp2_with fail
      refine (windowNumbers_any nx 0 w2).mono ?_; rintro e w3 ⟨rfl, hrow, g3⟩
      have HBr := Lib.hid HK2.out.1.lt
      have Q0 := Lib.hid (show BldAt B (A ++ numsB ((numsW x).take 0)) w3 ∧ Below B w w3 ∧ Lib.OthersKept 5 (some B) w w3 ∧ w3.heap[nx]? = some (winObj x) ∧ w3.heap[w2.heap.size]? = some (.cells ((List.range 3).map fun i => Value.pointer (some ⟨nx, 0 + i, none⟩)).toArray 138) from ⟨by simpa [numsB] using HK2.out.1.below g3, HK2.out.2.1.trans (Below.mono g3 (Nat.le_of_lt HK2.out.1.lt)), HK2.out.2.2.trans (kept_of_below g3), box_below HX.out g3, hrow⟩)
      clear hrow g3 HX HK2
      generalize w2.heap.size = nr at *
      go_wp2_with fail
      go_loopw [23] (fun i wq => ∃ j : Nat, j ≤ 3 ∧ i = .int .i64 (j : Int) ∧ Hid (BldAt B (A ++ numsB ((numsW x).take j)) wq ∧ Below B w wq ∧ Lib.OthersKept 5 (some B) w wq ∧ wq.heap[nx]? = some (winObj x) ∧ wq.heap[nr]? = some (.cells ((List.range 3).map fun i => Value.pointer (some ⟨nx, 0 + i, none⟩)).toArray 138))) (fun i _ => 3 - (intOf i).toNat)
      case atStart => exact ⟨0, Nat.zero_le _, rfl, Q0⟩
      case round =>
        obtain ⟨j, hj, rfl, HQ⟩ := hrel
        rename World => wq
        by_cases hj6 : j < 3
        · have r0 := box_cell HQ.out.2.2.2.2 j (.pointer (some ⟨nx, j, none⟩)) (ptr_at hj6)
          have p0 := box_cell HQ.out.2.2.2.1 j _ (numW_at x j hj6)
          have HT2 := Lib.hid (show numsB ((numsW x).take (j + 1)) = numsB ((numsW x).take j) ++ numB ((numsW x)[j]'hj6) by rw [List.take_succ_eq_append_getElem (show j < (numsW x).length from hj6), numsB_snoc]; rfl)
          have HFn := Lib.hid (HFx.out ((numsW x)[j]'hj6) (List.getElem_mem _))
          have HM2 := Lib.hid (show (A ++ numsB ((numsW x).take j)).length ≤ 200000 by
            have h1 := numsB_len (l := (numsW x).take j) (fun n hn => HFx.out n (List.mem_of_mem_take hn))
            have h2 := HM.out
            rw [List.length_take] at h1
            rw [List.length_append]; omega)
          generalize (numsW x)[j]'hj6 = n at *
          have PU := Lib.hid (put_any B (A ++ numsB ((numsW x).take j)) n wq HQ.out.1 (by have := HM2.out; omega) (by have := HFn.out; unfold Few10 at this; omega))
          have j1 : (0 : Int) ≤ (j : Int) := by omega
          have j2 : (j : Int) < 3 := by omega
          have j4 : ((j : Int)).toNat = j := by omega
          go_wp2_with fail
          refine PU.out.mono ?_; rintro e w5 ⟨rfl, h5, g5, k5⟩
          have Q5 := Lib.hid (show BldAt B (A ++ numsB ((numsW x).take (j + 1))) w5 ∧ Below B w w5 ∧ Lib.OthersKept 5 (some B) w w5 ∧ w5.heap[nx]? = some (winObj x) ∧ w5.heap[nr]? = some (.cells ((List.range 3).map fun i => Value.pointer (some ⟨nx, 0 + i, none⟩)).toArray 138) from
            ⟨by rw [HT2.out, ← List.append_assoc]; exact h5, HQ.out.2.1.trans g5, HQ.out.2.2.1.trans k5, k5 _ _ HQ.out.2.2.2.1 (by have := HBx.out; simp; omega) (fun c fz h => by injection h with _ h2; exact absurd h2 (by decide)), k5 _ _ HQ.out.2.2.2.2 (by have := HBr.out; simp; omega) (fun c fz h => by injection h with _ h2; exact absurd h2 (by decide))⟩)
          clear h5 g5 k5 PU HQ r0 p0 HM2 HFn
          go_wp2_with fail
          go_roundw
          case rel => exact ⟨j + 1, by omega, by go_num, Q5⟩
          case measure => simp [intOf]; omega
        · have j5 : ¬ (j : Int) < 3 := by omega
          have HJ := Lib.hid (show j = 3 by omega)
          have HF2 := Lib.hid (show BldAt B ((acc ++ numB L.length) ++ (L.take (k + 1)).flatMap (fun x => numsB (numsW x))) wq ∧ Below B w wq ∧ Lib.OthersKept 5 (some B) w wq from ⟨by
            have h1 := HQ.out.1
            rw [HJ.out, List.take_of_length_le (show (numsW x).length ≤ 3 from Nat.le_refl _), ← HT.out] at h1
            exact h1, HQ.out.2.1, HQ.out.2.2.1⟩)
          clear HQ Q0 HJ HT
          go_wp2_with fail
          go_roundw
          case rel => exact ⟨k + 1, by omega, by go_num, HF2⟩
          case measure => simp [intOf]; omega
    · have hkl : k = L.length := by omega
      subst hkl
      have HE := Lib.hid (show (acc ++ numB L.length) ++ (L.take L.length).flatMap (fun x => numsB (numsW x)) = acc ++ listW L by rw [List.take_length, List.append_assoc]; rfl)
      rw [HE.out] at HK
      have i5 : ¬ (L.length : Int) < (L.length : Int) := by omega
      go_wp2_with fail
      refine bodyPost_ret (results_none rfl _ _ _) rfl ?_
      exact ⟨rfl, HK.out⟩

end Go.Proofs.YtihohjgjklcnlaaDoor

namespace Go.Proofs.YtihohjgjklcnlaaDoor
open Go.RowKit Go.Shelf
attribute [local go_sem] Oper.semAt_some
theorem few10 (n : Int) : Few10 n := by
  unfold Few10 numB Wa.Enc.putBytes
  split
  · simp
  · exact Nat.le_trans (Wa.Enc.enc_le _) (by decide)
def numsP (p : Pl.Plan) : List Int := [p.entry, p.mmin, p.mmax]
/-- What the certificate of a plan has before the digest. -/
def planB (p : Pl.Plan) : List UInt8 := (numsB (numsP p) ++ listS p.st) ++ listW p.wn
theorem listS_len (L : List Pl.Stage) (h : L.length ≤ 100) : (listS L).length ≤ 7000 := by
  have h1 := flatS_len (L := L) (fun x _ n _ => few10 n)
  have h2 := few10 L.length
  unfold Few10 at h2
  unfold listS
  rw [List.length_append]; omega
theorem listW_len (L : List Pl.Win) (h : L.length ≤ 100) : (listW L).length ≤ 7000 := by
  have h1 := flatW_len (L := L) (fun x _ n _ => few10 n)
  have h2 := few10 L.length
  unfold Few10 at h2
  unfold listW
  rw [List.length_append]; omega
theorem numP_at (p : Pl.Plan) (u v : Value) : ∀ (j : Nat) (h : j < 3), (#[.int .i64 p.entry, .int .i64 p.mmin, .int .i64 p.mmax, u, v] : Array Value)[j]? = some (.int .i64 ((numsP p)[j]'h))
  | 0, _ => rfl | 1, _ => rfl | 2, _ => rfl | n + 3, h => absurd h (by omega)
set_option maxRecDepth 100000 in
set_option maxHeartbeats 2000000 in
theorem planText_any (q : PlanP) (w : World) (h : q.ok w) (hs : q.p.st.length ≤ 100) (hwn : q.p.wn.length ≤ 100) : Calls Tryd.prog 45 #[q.val] w fun e w' => e = .returned (.string (bs (planB q.p))) ∧ Below w.heap.size w w' := by
  have hb1 := below_new w (planObj q)
  have HQ := Lib.hid (h.below hb1)
  have HB1 := Lib.hid hb1
  have PB := Lib.hid (heap_alloc_new w (planObj q))
  have HSz := Lib.hid (World.size_alloc w (planObj q))
  have BN := Lib.hid (BldAt.new (w.alloc (planObj q)))
  have BB := Lib.hid (below_new (w.alloc (planObj q)) (.cells #[.pointer none, .slice none 0 0] 128))
  clear h hb1
  obtain ⟨⟨en, mi, ma, st, wn⟩, sa, sc, wa, wc⟩ := q
  dsimp only [planObj] at PB HSz BN BB HB1 HQ hs hwn
  go_enter Tryd.func45, Tryd.ntmps45
  go_wp2_with fail
  generalize w.alloc (.cells #[.int .i64 en, .int .i64 mi, .int .i64 ma, .slice sa st.length sc, .slice wa wn.length wc] 28) = w1 at *
  obtain ⟨B, hB⟩ : ∃ B, w.heap.size + 1 = B := ⟨_, rfl⟩
  have HSB := Lib.hid (HSz.out.trans hB)
  have HnB := Lib.hid (show w.heap.size < B by omega)
  rw [HSB.out] at BN BB
  rw [hB]
  clear hB HSz
  generalize hnp : w.heap.size = np at *
  have HNP := Lib.hid hnp; clear hnp
  have BL := Lib.hid (show B < (w1.alloc (.cells #[.pointer none, .slice none 0 0] 128)).heap.size by rw [World.size_alloc, HSB.out]; omega)
  generalize w1.alloc (.cells #[.pointer none, .slice none 0 0] 128) = w2 at *
  refine (bounds_any np 0 w2).mono ?_; rintro e w3 ⟨rfl, hrow, g3⟩
  have HBr := Lib.hid BL.out
  have Q0 := Lib.hid (show BldAt B (numsB ((numsP ⟨en, mi, ma, st, wn⟩).take 0)) w3 ∧ Below B w1 w3 ∧ w3.heap[w2.heap.size]? = some (.cells ((List.range 3).map fun i => Value.pointer (some ⟨np, 0 + i, none⟩)).toArray 138) from ⟨by simpa [numsB] using BN.out.below g3, BB.out.trans (Below.mono g3 (Nat.le_of_lt BL.out)), hrow⟩)
  clear hrow g3 BN BB BL
  generalize w2.heap.size = nr at *
  go_wp2_with fail
  go_loopw [10] (fun i wq => ∃ j : Nat, j ≤ 3 ∧ i = .int .i64 (j : Int) ∧ Hid (BldAt B (numsB ((numsP ⟨en, mi, ma, st, wn⟩).take j)) wq ∧ Below B w1 wq ∧ wq.heap[nr]? = some (.cells ((List.range 3).map fun i => Value.pointer (some ⟨np, 0 + i, none⟩)).toArray 138))) (fun i _ => 3 - (intOf i).toNat)
  case atStart => exact ⟨0, Nat.zero_le _, rfl, Q0⟩
  case round =>
    obtain ⟨j, hj, rfl, HQj⟩ := hrel
    rename World => wq
    have PBq := Lib.hid ((HQj.out.2.1.block _ HnB.out).trans PB.out)
    by_cases hj6 : j < 3
    · have r0 := box_cell HQj.out.2.2 j (.pointer (some ⟨np, j, none⟩)) (ptr_at hj6)
      have p0 := box_cell PBq.out j _ (numP_at ⟨en, mi, ma, st, wn⟩ _ _ j hj6)
      have HT2 := Lib.hid (show numsB ((numsP ⟨en, mi, ma, st, wn⟩).take (j + 1)) = numsB ((numsP ⟨en, mi, ma, st, wn⟩).take j) ++ numB ((numsP ⟨en, mi, ma, st, wn⟩)[j]'hj6) by rw [List.take_succ_eq_append_getElem (show j < (numsP ⟨en, mi, ma, st, wn⟩).length from hj6), numsB_snoc]; rfl)
      have HM2 := Lib.hid (show (numsB ((numsP ⟨en, mi, ma, st, wn⟩).take j)).length ≤ 30 by
        have h1 := numsB_len (l := (numsP ⟨en, mi, ma, st, wn⟩).take j) (fun n _ => few10 n)
        rw [List.length_take] at h1
        omega)
      generalize (numsP ⟨en, mi, ma, st, wn⟩)[j]'hj6 = n at *
      have PU := Lib.hid (put_any B (numsB ((numsP ⟨en, mi, ma, st, wn⟩).take j)) n wq HQj.out.1 (by have := HM2.out; omega) (by have := few10 n; unfold Few10 at this; omega))
      have j1 : (0 : Int) ≤ (j : Int) := by omega
      have j2 : (j : Int) < 3 := by omega
      have j4 : ((j : Int)).toNat = j := by omega
      go_wp2_with fail
      refine PU.out.mono ?_; rintro e w5 ⟨rfl, h5, g5, k5⟩
      have Q5 := Lib.hid (show BldAt B (numsB ((numsP ⟨en, mi, ma, st, wn⟩).take (j + 1))) w5 ∧ Below B w1 w5 ∧ w5.heap[nr]? = some (.cells ((List.range 3).map fun i => Value.pointer (some ⟨np, 0 + i, none⟩)).toArray 138) from
        ⟨by rw [HT2.out]; exact h5, HQj.out.2.1.trans g5, k5 _ _ HQj.out.2.2 (by have := HBr.out; simp; omega) (fun c fz h => by injection h with _ h2; exact absurd h2 (by decide))⟩)
      clear h5 g5 k5 PU HQj r0 p0 HM2 PBq
      go_wp2_with fail
      go_roundw
      case rel => exact ⟨j + 1, by omega, by go_num, Q5⟩
      case measure => simp [intOf]; omega
    · have j5 : ¬ (j : Int) < 3 := by omega
      have HJ := Lib.hid (show j = 3 by omega)
      have hN3 : (numsB (numsP ⟨en, mi, ma, st, wn⟩)).length ≤ 30 := numsB_len (l := numsP ⟨en, mi, ma, st, wn⟩) (fun n _ => few10 n)
      have HN3 := Lib.hid hN3; clear hN3
      have F1 := Lib.hid (show BldAt B (numsB (numsP ⟨en, mi, ma, st, wn⟩)) wq ∧ Below B w1 wq from ⟨by
        have h1 := HQj.out.1
        rw [HJ.out, List.take_of_length_le (show (numsP ⟨en, mi, ma, st, wn⟩).length ≤ 3 from Nat.le_refl _)] at h1
        exact h1, HQj.out.2.1⟩)
      have c3 := box_cell PBq.out 3 (.slice sa st.length sc) rfl
      clear HQj Q0 HJ
      go_wp2_with fail
      refine (putListS_any B _ st sa sc w1 wq (Nat.le_of_eq HSB.out) F1.out.1 (by rw [HSB.out]; exact F1.out.2) HQ.out.st hs (by have := HN3.out; omega) (few10 _) (fun x _ n _ => few10 n)).mono ?_; rintro e w6 ⟨rfl, h6, g6, k6⟩
      have F2 := Lib.hid (show BldAt B (numsB (numsP ⟨en, mi, ma, st, wn⟩) ++ listS st) w6 ∧ Below B w1 w6 from ⟨h6, F1.out.2.trans g6⟩)
      have PB6 := Lib.hid ((F2.out.2.block _ HnB.out).trans PB.out)
      clear h6 g6 k6 c3 F1 PBq
      have c4 := box_cell PB6.out 4 (.slice wa wn.length wc) rfl
      go_wp2_with fail
      refine (putListW_any B _ wn wa wc w1 w6 (Nat.le_of_eq HSB.out) F2.out.1 (by rw [HSB.out]; exact F2.out.2) HQ.out.wn hwn (by have := HN3.out; have := listS_len st hs; rw [List.length_append]; omega) (few10 _) (fun x _ n _ => few10 n)).mono ?_; rintro e w7 ⟨rfl, h7, g7, k7⟩
      have F3 := Lib.hid (show BldAt B (planB ⟨en, mi, ma, st, wn⟩) w7 ∧ Below B w1 w7 from ⟨h7, F2.out.2.trans g7⟩)
      clear h7 g7 k7 c4 F2 PB6
      go_wp2_with fail
      refine (build_any B _ w7 F3.out.1 (Nat.le_of_lt F3.out.1.lt)).mono ?_; rintro e w8 ⟨rfl, g8⟩
      have F4 := Lib.hid (show Below np w w8 from HB1.out.trans (Below.mono (F3.out.2.trans g8) (Nat.le_of_lt HnB.out)))
      clear g8
      go_wp2_with fail
      go_ret
      exact ⟨rfl, by rw [HNP.out]; exact F4.out⟩
end Go.Proofs.YtihohjgjklcnlaaDoor
