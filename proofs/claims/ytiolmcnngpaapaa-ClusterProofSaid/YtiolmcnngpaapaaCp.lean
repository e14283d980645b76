/-
  The recursive closure, whole; everyOrder, onlyOrder.
-/
import Derived.Test.YtiolmcnngpaapaaCo
import Derived.Test.YtiolmcnngpaapaaRo
namespace Go.Proofs.Ytiolmcnngpaapaa
open Go.RowKit Go.Shelf Cl

theorem partO_len (t k : Nat) (pre : List Int) (N : Nat) (h : ∀ x, (chooseO t (t - (k + 1)) (pre ++ [x])).length ≤ N) (j : Nat) : (partO t k pre j).length ≤ j * N := by
  unfold partO
  have : ∀ l : List Int, (l.flatMap fun x => if pre.contains x then [] else chooseO t (t - (k + 1)) (pre ++ [x])).length ≤ l.length * N := by
    intro l; induction l with
    | nil => simp
    | cons a l ih =>
      rw [List.flatMap_cons, List.length_append, List.length_cons, Nat.succ_mul]
      have h1 : (if pre.contains a then ([] : List (List Int)) else chooseO t (t - (k + 1)) (pre ++ [a])).length ≤ N := by
        split
        · simp
        · exact h a
      omega
  exact Nat.le_trans (this _) (Nat.mul_le_mul_right N (by simp; omega))
theorem chooseO_len (t : Nat) : ∀ f pre, (chooseO t f pre).length ≤ t ^ f := by
  intro f; induction f with
  | zero => intro pre; simp [chooseO]
  | succ f ih =>
    intro pre
    rw [chooseO]
    have : ∀ l : List Int, (l.flatMap fun x => if pre.contains x then [] else chooseO t f (pre ++ [x])).length ≤ l.length * t ^ f := by
      intro l; induction l with
      | nil => simp
      | cons a l ih2 =>
        rw [List.flatMap_cons, List.length_append, List.length_cons, Nat.succ_mul]
        have h1 : (if pre.contains a then ([] : List (List Int)) else chooseO t f (pre ++ [a])).length ≤ t ^ f := by
          split
          · simp
          · exact ih _
        omega
    have h2 := this (iota t)
    rw [iota_len] at h2
    rw [Nat.pow_succ, Nat.mul_comm]; exact h2
/-- The closure, from any place on; at most N orders are added. -/
def ChoSpec (B t k : Nat) : Prop := ∀ (P : List (Nat × List Int)), P.length + t ^ (t - k) ≤ 100000 → ∀ (X : List Int) (w : World), CoAt B t P X w → B + 5 ≤ w.heap.size →
    Calls Try.prog 90 #[.int .i64 (k : Int), boxP B, boxP (B + 3), boxP (B + 1), boxP (B + 4)] w (ChoPost B t k P X w)
set_option maxRecDepth 100000 in
set_option maxHeartbeats 4000000 in
theorem choose_step (B t k f : Nat) (ht : t ≤ 100) (hk : t - k = f + 1) (IH : ChoSpec B t (k + 1)) : ChoSpec B t k := by
  intro P hP X w h hB
  have x0 : w.cell? ⟨B, 0, none⟩ = some (.int .i64 (t : Int)) := box_cell h.tb 0 _ rfl
  have HH := Lib.hid h
  have hxl := h.xl
  have e1 : ((k : Int) == (t : Int)) = false := by rw [beq_eq_false_iff_ne]; omega
  have en := enters_of Try.func90 (by kernel_rfl) rfl
  have HI := Lib.hid IH
  have HAll := Lib.hid (partO_all (pre := X.take k) hk)
  have hkl : (X.take k).length = k := by simp; omega
  have HPl := Lib.hid (fun j => partO_len t k (X.take k) (t ^ (t - (k + 1))) (fun x => chooseO_len t _ _) j)
  have HSu := Lib.hid (fun j (h : j < t) => partO_succ (pre := X.take k) (k := k) h)
  have HPw := Lib.hid (show ∀ j, j < t → j * t ^ (t - (k + 1)) + t ^ (t - (k + 1)) ≤ t ^ (t - k) from fun j hj => by
    rw [hk, show t - (k + 1) = f by omega, Nat.pow_succ, Nat.mul_comm (t ^ f) t, ← Nat.succ_mul]
    exact Nat.mul_le_mul_right _ hj)
  have HKl := Lib.hid hkl
  have HXl := Lib.hid hxl
  clear h IH hkl hxl
  go_enter Try.func90, Try.ntmps90
  go_wp2_with fail
  go_loopw [21] (fun jv wr => ∃ (j : Nat) (P' : List (Nat × List Int)) (X' : List Int), j ≤ t ∧ jv = .int .i64 (j : Int) ∧ Hid (CoAt B t (P ++ P') X' wr) ∧ Hid (P'.map (·.2) = partO t k (X.take k) j) ∧ Hid (X'.take k = X.take k) ∧ Hid (Below B w wr ∧ B + 5 ≤ wr.heap.size)) (fun jv _ => t - (intOf jv).toNat)
  case atStart => exact ⟨0, [], X, Nat.zero_le _, rfl, Lib.hid (by simpa using HH.out), Lib.hid rfl, Lib.hid rfl, Lib.hid ⟨Below.refl _ _, hB⟩⟩
  case round =>
    obtain ⟨j, P', X', hj, rfl, HC, HP', HX', HB'⟩ := hrel
    by_cases hlt : j < t
    · have j0 : (0 : Int) ≤ (j : Int) := by omega
      have j1 : (j : Int) < (t : Int) := by omega
      have hxl' := HC.out.xl
      have o0 : wr.cell? ⟨B + 3, 0, none⟩ = some (rowV (B + 2) t) := box_cell HC.out.ob 0 _ rfl
      have hint : IntsA wr (some ⟨B + 2, 0, none⟩) t (X'.take k) := by
        refine ⟨by simp; omega, by unfold maxLen; omega, fun i hi => ⟨B + 2, 0, rfl, lt_of_block HC.out.row, fun q v hv => ?_⟩⟩
        have hi2 : i < X'.length := by simp at hi; omega
        have hq : q = 0 := by
          have := (List.getElem?_eq_some_iff.1 hv).1
          rw [int_len] at this; omega
        subst hq
        rw [List.getElem_take] at hv
        have := HC.out.row.cell hi2
        rw [List.getD_eq_getElem?_getD, List.getElem?_eq_getElem hi2] at this
        simp only [intCells, List.getElem?_cons_zero, Option.some.injEq] at hv
        subst hv
        simpa using this
      have HCt := Lib.hid (slContains_any (X'.take k) (j : Int) (some ⟨B + 2, 0, none⟩) t wr hint)
      rw [HX'.out, HKl.out] at HCt
      have k0 : (0 : Int) ≤ (k : Int) := by omega
      have k1 : (k : Int) ≤ (t : Int) := by omega
      have HS := Lib.hid (HSu.out j hlt)
      clear hint
      cases hcn : (X.take k).contains (j : Int) with
      | true =>
        rw [hcn] at HCt
        rw [hcn] at HS
        have HP2 := Lib.hid (show P'.map (·.2) = partO t k (X.take k) (j + 1) from by rw [HS.out, HP'.out]; simp)
        clear hcn HS HP'
        go_wp2_with fail
        refine HCt.out.mono ?_
        rintro _ w4 ⟨rfl, rfl⟩
        go_wp2_with fail
        go_roundw
        case rel => exact ⟨j + 1, P', X', by omega, by go_num, HC, HP2, HX', HB'⟩
        case measure => simp [intOf]; omega
      | false =>
        rw [hcn] at HCt
        rw [hcn] at HS
        have hkt : k < X'.length := by omega
        have c0 := HC.out.row.cell hkt
        have f0 : wr.frozen? ⟨B + 2, k, none⟩ = false := box_fz HC.out.row k
        have b0 : B + 2 < wr.heap.size := lt_of_block HC.out.row
        have k2 : (k : Int) < (t : Int) := by omega
        have d1 : IntKind.i64.wrap ((k : Int) + 1) = (k : Int) + 1 := IntWalk.i64_in _ (by omega)
        have H5 := Lib.hid (HC.out.setRow k (j : Int))
        have HB5 := Lib.hid (show Below B w (wr.setCell ⟨B + 2, k, none⟩ (.int .i64 (j : Int))) ∧ B + 5 ≤ (wr.setCell ⟨B + 2, k, none⟩ (.int .i64 (j : Int))).heap.size from
          ⟨HB'.out.1.grown (grown_set (w := wr) (B + 2) k _) (by omega) (fun q e => by injection e with e; omega), by simpa [World.setCell] using HB'.out.2⟩)
        have HTk := Lib.hid (show (X'.set k (j : Int)).take (k + 1) = X.take k ++ [(j : Int)] from by
          rw [List.take_add_one, List.getElem?_set_self hkt, List.take_set_of_le (Nat.le_refl _), HX'.out]; rfl)
        have hPl : (P ++ P').length + t ^ (t - (k + 1)) ≤ 100000 := by
          have h1 := HPl.out j
          rw [← HP'.out, List.length_map] at h1
          have h2 := HPw.out j hlt
          rw [List.length_append]; omega
        have HPL := Lib.hid hPl
        clear hcn hPl HPl HPw
        go_upto_region 8 with (refine HCt.out.mono ?_; rintro _ w4 ⟨rfl, rfl⟩)
        go_upto_region 9 with (fail)
        generalize wr.setCell ⟨B + 2, k, none⟩ (.int .i64 (j : Int)) = w5 at *
        have q0 : w5.cell? ⟨B + 4, 0, none⟩ = some (chooseV B) := box_cell H5.out.cb 0 _ rfl
        have hI5 := HI.out (P ++ P') HPL.out (X'.set k (j : Int)) w5 H5.out HB5.out.2
        rw [show (((k + 1 : Nat)) : Int) = (k : Int) + 1 from by omega] at hI5
        have HI5 := Lib.hid hI5
        clear c0 f0 b0 HC hI5
        go_wp2_with fail
        refine HI5.out.mono ?_
        rintro _ w6 ⟨rfl, P2, X2, h1, h2, h3, h4⟩
        rw [HTk.out] at h2 h3
        have HP2 := Lib.hid (show (P' ++ P2).map (·.2) = partO t k (X.take k) (j + 1) from by
          rw [HS.out, List.map_append, HP'.out, h2]; rfl)
        have HX2 := Lib.hid (show X2.take k = X.take k from by
          have h5 : List.take k (X.take k ++ [(j : Int)]) = X.take k := by rw [List.take_append_of_le_length (by rw [HKl.out]; exact Nat.le_refl _), List.take_take, Nat.min_self]
          have h6 := congrArg (List.take k) h3
          rw [List.take_take, Nat.min_eq_left (by omega), h5] at h6
          exact h6)
        have HC6 := Lib.hid (show CoAt B t (P ++ (P' ++ P2)) X2 w6 from by rw [← List.append_assoc]; exact h1.out)
        have HB6 := Lib.hid (show Below B w w6 ∧ B + 5 ≤ w6.heap.size from ⟨HB5.out.1.trans h4.out, by have := h4.out.size; have := HB5.out.2; omega⟩)
        clear h1 h2 h3 h4 HI5 H5 HB5 HS HP' q0
        go_wp2_with fail
        go_roundw
        case rel => exact ⟨j + 1, P' ++ P2, X2, by omega, by go_num, HC6, HP2, HX2, HB6⟩
        case measure => simp [intOf]; omega
    · have j1 : ¬ (j : Int) < (t : Int) := by omega
      obtain rfl : j = t := by omega
      have HE := Lib.hid (show P'.map (·.2) = chooseO j (j - k) (X.take k) from by rw [HP'.out, HAll.out])
      clear HP' HAll
      go_wp2_with fail
      go_end0
      exact ⟨rfl, P', X', HC, HE.out, HX'.out, Lib.hid HB'.out.1⟩
theorem choose_any (B t : Nat) (ht : t ≤ 100) : ∀ f k, t - k = f → k ≤ t → ChoSpec B t k := by
  intro f; induction f with
  | zero =>
    intro k hk hkt P hP X w h hB
    obtain rfl : k = t := by omega
    exact choose_zero B k ht P (by omega) X w h hB
  | succ f ih =>
    intro k hk hkt
    exact choose_step B t k f ht hk (ih (k + 1) (by omega) (by omega))
theorem OrdsO.mono {w : World} {C C' : Nat} {v : Value} {P : List (Nat × List Int)} (h : OrdsO w C v P) (hC : C' ≤ C) : OrdsO w C' v P := by
  refine ⟨?_, fun p hp => ⟨Nat.le_trans hC (h.rows p hp).1, (h.rows p hp).2⟩⟩
  obtain ⟨h1, h2 | ⟨g, cap, cur, rfl, h2, h3, h4⟩⟩ := h.own
  · exact ⟨h1, .inl h2⟩
  · exact ⟨h1, .inr ⟨g, cap, cur, rfl, Nat.le_trans hC h2, h3, h4⟩⟩
/-- Orders, as a value that the call has made. -/
def OrdsPost (w : World) (O : List (List Int)) (e : Ending) (w' : World) : Prop := ∃ v P, e = .returned v ∧ Hid (OrdsO w' w.heap.size v P) ∧ P.map (·.2) = O ∧ Hid (Below w.heap.size w w')
set_option maxRecDepth 100000 in
set_option maxHeartbeats 4000000 in
theorem everyOrder_any (t : Nat) (h1 : 1 ≤ t) (ht : t ≤ 5) (w : World) : Calls Try.prog 59 #[.int .i64 (t : Int)] w (OrdsPost w (everyO t)) := by
  have hmk := make_ints t (by omega)
  have t0 : (0 : Int) ≤ (t : Int) := by omega
  have en := enters_of Try.func90 (by kernel_rfl) rfl
  go_enter Try.func59, Try.ntmps59
  go_upto_region 5 with (fail)
  simp only [Nat.add_assoc, Nat.reduceAdd]
  have HCo : ∀ W', W' = (((((w.alloc (.cells #[.int .i64 (t : Int)] 3)).alloc (.cells #[.slice none 0 0] 35)).alloc (.cells (Array.replicate t (Value.int .i64 0)) 3)).alloc (.cells #[rowV (w.heap.size + 2) t] 25)).alloc (.cells #[chooseV w.heap.size] 124)) →
      CoAt w.heap.size t [] (List.replicate t 0) W' ∧ w.heap.size + 5 ≤ W'.heap.size ∧ Below w.heap.size w W' := fun W' h => by
    subst h
    have k0 := heap_alloc_new w (.cells #[.int .i64 (t : Int)] 3)
    have s0 : (w.alloc (.cells #[.int .i64 (t : Int)] 3)).heap.size = w.heap.size + 1 := by simp
    have b0 := below_new w (.cells #[.int .i64 (t : Int)] 3)
    generalize w.alloc (.cells #[.int .i64 (t : Int)] 3) = v0 at *
    have k1 := heap_alloc_new v0 (.cells #[.slice none 0 0] 35)
    have s1 : (v0.alloc (.cells #[.slice none 0 0] 35)).heap.size = w.heap.size + 2 := by simp; omega
    have b1 := below_new v0 (.cells #[.slice none 0 0] 35)
    generalize v0.alloc (.cells #[.slice none 0 0] 35) = v1 at *
    have k2 := heap_alloc_new v1 (.cells (Array.replicate t (Value.int .i64 0)) 3)
    have s2 : (v1.alloc (.cells (Array.replicate t (Value.int .i64 0)) 3)).heap.size = w.heap.size + 3 := by simp; omega
    have b2 := below_new v1 (.cells (Array.replicate t (Value.int .i64 0)) 3)
    generalize v1.alloc (.cells (Array.replicate t (Value.int .i64 0)) 3) = v2 at *
    have k3 := heap_alloc_new v2 (.cells #[rowV (w.heap.size + 2) t] 25)
    have s3 : (v2.alloc (.cells #[rowV (w.heap.size + 2) t] 25)).heap.size = w.heap.size + 4 := by simp; omega
    have b3 := below_new v2 (.cells #[rowV (w.heap.size + 2) t] 25)
    generalize v2.alloc (.cells #[rowV (w.heap.size + 2) t] 25) = v3 at *
    have k4 := heap_alloc_new v3 (.cells #[chooseV w.heap.size] 124)
    have s4 : (v3.alloc (.cells #[chooseV w.heap.size] 124)).heap.size = w.heap.size + 5 := by simp; omega
    have b4 := below_new v3 (.cells #[chooseV w.heap.size] 124)
    generalize v3.alloc (.cells #[chooseV w.heap.size] 124) = v4 at *
    rw [s0] at k1; rw [s1] at k2; rw [s2] at k3; rw [s3] at k4
    have b34 := below_step b3 b4
    have b24 := below_step b2 b34
    have b14 := below_step b1 b24
    refine ⟨⟨box_below k0 b14, ⟨_, box_below k1 b24, ⟨World.ownsRow_nil _ _ _ _, fun p hp => by cases hp⟩⟩, ?_, by simp, box_below k3 b4, k4⟩, by omega, below_step b0 b14⟩
    unfold IntRow; rw [List.map_replicate, List.toArray_replicate]; exact box_below k2 b34
  generalize (((((w.alloc (.cells #[.int .i64 (t : Int)] 3)).alloc (.cells #[.slice none 0 0] 35)).alloc (.cells (Array.replicate t (Value.int .i64 0)) 3)).alloc (.cells #[rowV (w.heap.size + 2) t] 25)).alloc (.cells #[chooseV w.heap.size] 124)) = w5 at *
  obtain ⟨hco, hsz, hbl⟩ := HCo w5 rfl
  have hp : t ^ (t - 1) ≤ 1000 := by
    obtain rfl | rfl | rfl | rfl | rfl : t = 1 ∨ t = 2 ∨ t = 3 ∨ t = 4 ∨ t = 5 := by omega
    all_goals decide
  have hI : Calls Try.prog 90 #[.int .i64 1, boxP w.heap.size, boxP (w.heap.size + 3), boxP (w.heap.size + 1), boxP (w.heap.size + 4)] w5 (ChoPost w.heap.size t 1 [] (List.replicate t 0) w5) :=
    choose_any w.heap.size t (by omega) (t - 1) 1 rfl h1 [] (by simp; omega) (List.replicate t 0) w5 hco hsz
  have HI := Lib.hid hI
  have HEq := Lib.hid (show chooseO t (t - 1) ((List.replicate t 0).take 1) = everyO t from by
    unfold everyO; rw [List.take_replicate, Nat.min_eq_left h1]; rfl)
  have q0 : w5.cell? ⟨w.heap.size + 4, 0, none⟩ = some (chooseV w.heap.size) := box_cell hco.cb 0 _ rfl
  have HBl := Lib.hid hbl
  clear hI hco hsz hbl HCo hmk
  go_wp2_with fail
  refine HI.out.mono ?_
  rintro _ w6 ⟨rfl, P', X', h2, h3, -, h4⟩
  obtain ⟨v, l1, l2⟩ := h2.out.lb
  have l0 : w6.cell? ⟨w.heap.size + 1, 0, none⟩ = some v := box_cell l1 0 _ rfl
  obtain ⟨va, vc, rfl, -⟩ := own_slice l2.own
  have L2 := Lib.hid l2
  have HP := Lib.hid (h3.trans HEq.out)
  have HB6 := Lib.hid (HBl.out.trans h4.out)
  clear h2 h3 h4 l1 l2 HI q0 HEq HBl
  go_wp2_with fail
  go_ret
  exact ⟨_, [] ++ P', rfl, Lib.hid (L2.out.mono (by omega)), by simpa using HP.out, HB6⟩
set_option maxRecDepth 100000 in
set_option maxHeartbeats 4000000 in
theorem onlyOrder_any (t : Nat) (ht : t ≤ 100) (w : World) : Calls Try.prog 65 #[.int .i64 (t : Int)] w (OrdsPost w [iota t]) := by
  have hmk := make_ints t (by omega)
  have t0 : (0 : Int) ≤ (t : Int) := by omega
  have HR := Lib.hid (show IntRow (w.alloc (.cells (Array.replicate t (Value.int .i64 0)) 3)) w.heap.size (List.replicate t 0) from by
    unfold IntRow; rw [heap_alloc_new, List.map_replicate, List.toArray_replicate])
  have HB := Lib.hid (below_new w (.cells (Array.replicate t (Value.int .i64 0)) 3))
  go_enter Try.func65, Try.ntmps65
  go_upto_region 2 with (fail)
  generalize w.alloc (.cells (Array.replicate t (Value.int .i64 0)) 3) = w1 at *
  clear hmk
  go_wp2_with fail
  go_loopw [9] (fun jv wr => ∃ (j : Nat) (X : List Int), j ≤ t ∧ jv = .int .i64 (j : Int) ∧ Hid (IntRow wr w.heap.size X) ∧ Hid (X.length = t ∧ X.take j = (iota t).take j) ∧ Hid (Below w.heap.size w wr)) (fun jv _ => t - (intOf jv).toNat)
  case atStart => exact ⟨0, _, Nat.zero_le _, rfl, HR, Lib.hid ⟨by simp, rfl⟩, HB⟩
  case round =>
    clear HR HB
    obtain ⟨j, X, hj, rfl, HR, HX, HB⟩ := hrel
    by_cases hlt : j < t
    · have j0 : (0 : Int) ≤ (j : Int) := by omega
      have j1 : (j : Int) < (t : Int) := by omega
      have hjX : j < X.length := by have := HX.out.1; omega
      have c0 := HR.out.cell hjX
      have f0 : wr.frozen? ⟨w.heap.size, j, none⟩ = false := box_fz HR.out j
      have b0 : w.heap.size < wr.heap.size := lt_of_block HR.out
      have HR2 := Lib.hid (HR.out.set j (j : Int))
      have HB2 := Lib.hid (HB.out.grown (grown_set (w := wr) w.heap.size j (.int .i64 (j : Int))) (by omega) (fun q e => by injection e with e; omega))
      have HX2 := Lib.hid (show (X.set j (j : Int)).length = t ∧ (X.set j (j : Int)).take (j + 1) = (iota t).take (j + 1) from by
        refine ⟨by simpa using HX.out.1, ?_⟩
        rw [List.take_add_one, List.getElem?_set_self hjX, List.take_set_of_le (Nat.le_refl _), HX.out.2, iota_take_succ hlt]; rfl)
      go_wp2_with fail
      go_roundw
      case rel => exact ⟨j + 1, _, by omega, by go_num, HR2, HX2, HB2⟩
      case measure => simp [intOf]; omega
    · have j1 : ¬ (j : Int) < (t : Int) := by omega
      have HE := Lib.hid (show X = iota t from by
        have h := HX.out.2
        rw [List.take_of_length_le (by have := HX.out.1; omega), List.take_of_length_le (by rw [iota_len]; omega)] at h
        exact h)
      have HL := Lib.hid HX.out.1
      have HP := Lib.hid (show OrdsO (wr.alloc (.cells #[rowV w.heap.size t] 25)) w.heap.size (.slice (some ⟨wr.heap.size, 0, none⟩) 1 1) [(w.heap.size, X)] from by
        refine ⟨?_, fun p hp => ?_⟩
        · have hrv : rowVal (w.heap.size, X) = rowV w.heap.size t := by show rowV w.heap.size X.length = _; rw [HL.out]
          simp only [List.map_cons, List.map_nil, hrv, List.length_cons, List.length_nil]
          exact ⟨rfl, .inr ⟨wr.heap.size, 1, _, rfl, HB.out.size, heap_alloc_new _ _, Nat.le_refl _, by decide, rfl, rfl⟩⟩
        · rw [List.mem_singleton] at hp; subst hp
          exact ⟨Nat.le_refl _, box_below HR.out (below_new _ _)⟩)
      have HB2 := Lib.hid (below_step HB.out (below_new wr (.cells #[rowV w.heap.size t] 25)))
      clear HX HL
      go_wp2_with fail
      go_ret
      exact ⟨_, [(w.heap.size, X)], rfl, HP, by rw [HE.out]; rfl, HB2⟩
end Go.Proofs.Ytiolmcnngpaapaa
