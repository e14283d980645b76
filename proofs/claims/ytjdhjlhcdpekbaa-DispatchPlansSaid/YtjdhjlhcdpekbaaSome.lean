/-
  The bookings that lists of four integers determine; the contract of the reference's Some.
-/
import Derived.Test.YtjdhjlhcdpekbaaRefs
import Derived.Deep.RegionLaw
namespace Go.Proofs.Ytjdhjlhcdpekbaa
open Go.RowKit Go.Shelf

/-- Arrays of k integers in a slice: the reading is a list of lists. -/
def ArrsA (k : Nat) (w : World) (a : Option Addr) (c : Nat) (L : List (List Int)) : Prop :=
  L.length ≤ c ∧ c ≤ maxLen ∧ (∀ y ∈ L, y.length = k ∧ ∀ x ∈ y, Fits x) ∧ ∀ i (h : i < L.length), ∃ b off : Nat, a = some ⟨b, off, none⟩ ∧ b < w.heap.size ∧ ∀ (j : Nat) (v : Int), L[i][j]? = some v → w.cell? ⟨b, off + i * k + j, none⟩ = some (.int .i64 v)
theorem ArrsA.below {k : Nat} {w w' : World} {a : Option Addr} {c : Nat} {L : List (List Int)} (h : ArrsA k w a c L) (hb : Below w.heap.size w w') : ArrsA k w' a c L := by
  refine ⟨h.1, h.2.1, h.2.2.1, fun i hi => ?_⟩
  obtain ⟨b, off, rfl, h1, h2⟩ := h.2.2.2 i hi
  exact ⟨b, off, rfl, Nat.lt_of_lt_of_le h1 hb.size, fun j v hv => (hb.cell (p := ⟨b, off + i * k + j, none⟩) h1).trans (h2 j v hv)⟩
/-- The booking of four integers. -/
def mkB (y : List Int) : Kal.Bk := ⟨pickZ (y[0]?.getD 0) 6, pickZ (y[1]?.getD 0) 300, pickZ (y[1]?.getD 0) 300 + 1 + pickZ (y[2]?.getD 0) 40, 1 + pickZ (y[3]?.getD 0) 6⟩
def someL (X : List (List Int)) : List Kal.Bk := (X.take 40).map mkB
theorem someL_len (X : List (List Int)) : (someL X).length ≤ 40 := by unfold someL; rw [List.length_map, List.length_take]; omega
theorem mkB_ok (y : List Int) : Kal.okB (mkB y) = true ∧ (mkB y).tool < 6 ∧ (mkB y).e ≤ 340 ∧ (mkB y).o ≤ 6 := by
  have h0 := pickZ_bd (c := y[0]?.getD 0) (n := 6) (by omega)
  have h1 := pickZ_bd (c := y[1]?.getD 0) (n := 300) (by omega)
  have h2 := pickZ_bd (c := y[2]?.getD 0) (n := 40) (by omega)
  have h3 := pickZ_bd (c := y[3]?.getD 0) (n := 6) (by omega)
  refine ⟨Kal.okB_iff.2 ?_, ?_, ?_, ?_⟩ <;> simp only [mkB] <;> omega
theorem someL_ok {X : List (List Int)} {b : Kal.Bk} (h : b ∈ someL X) : Kal.okB b = true ∧ b.tool < 6 ∧ b.e ≤ 340 ∧ b.o ≤ 6 := by
  unfold someL at h
  obtain ⟨y, _, rfl⟩ := List.mem_map.1 h
  exact mkB_ok y

set_option maxRecDepth 100000 in
set_option maxHeartbeats 4000000 in
theorem refSome_any (X : List (List Int)) (a : Option Addr) (c : Nat) (w : World) (h : ArrsA 4 w a c X) : Calls Try.prog 14 #[.slice a X.length c] w (NewRow w (someL X)) := by
  have hl := Nat.le_trans h.1 h.2.1
  unfold maxLen at hl
  have H := Lib.hid h
  obtain ⟨i0, hi, hz0, hz1, hz2⟩ := info_parts info_booking
  clear h
  go_enter Try.func14, Try.ntmps14
  go_wp2_with fail
  go_loopw [3, 4] (fun vv i wr => ∃ (k : Nat) (v : Value), k ≤ X.length ∧ k ≤ 40 ∧ i = .int .i64 (k : Int) ∧ v = vv ∧ Hid (BkOwn wr w.heap.size v ((X.take k).map mkB)) ∧ Hid (Below w.heap.size w wr)) (fun _ i _ => 40 - (intOf i).toNat)
  case atStart => exact ⟨0, _, by omega, by omega, rfl, rfl, Lib.hid (BkOwn.nil _ _), Lib.hid (Below.refl _ _)⟩
  case round =>
    obtain ⟨k, v, hk, hk40, rfl, rfl, HV, HB⟩ := hrel
    by_cases hlt : k < X.length ∧ k < 40
    · obtain ⟨hlt, hlt40⟩ := hlt
      obtain ⟨b, off, rfl, hb1, hc0⟩ := H.out.2.2.2 k hlt
      have hc : ∀ (j : Nat) (v : Int), X[k][j]? = some v → wr.cell? ⟨b, off + k * 4 + j, none⟩ = some (.int .i64 v) := fun j v hv => (HB.out.cell (p := ⟨b, off + k * 4 + j, none⟩) hb1).trans (hc0 j v hv)
      clear hc0
      obtain ⟨hlen, hfit⟩ := (H.out).2.2.1 X[k] (List.getElem_mem hlt)
      have HS := Lib.hid (show (X.take (k + 1)).map mkB = (X.take k).map mkB ++ [mkB X[k]] by rw [List.take_succ_eq_append_getElem hlt, List.map_append]; rfl)
      have hkl : ((X.take k).map mkB).length = k := by rw [List.length_map, List.length_take]; omega
      generalize X[k] = y at *
      match y, hlen with
      | [y0, y1, y2, y3], _ =>
        have x0 := hc 0 y0 rfl; have x1 := hc 1 y1 rfl; have x2 := hc 2 y2 rfl; have x3 := hc 3 y3 rfl
        have f0 := hfit y0 (by simp); have f1 := hfit y1 (by simp); have f2 := hfit y2 (by simp); have f3 := hfit y3 (by simp)
        have HP1 := Lib.hid (fun w => refPick_any y1 300 w f1 (by omega))
        have HP0 := Lib.hid (fun w => refPick_any y0 6 w f0 (by omega))
        have HP2 := Lib.hid (fun w => refPick_any y2 40 w f2 (by omega))
        have HP3 := Lib.hid (fun w => refPick_any y3 6 w f3 (by omega))
        have b1 := pickZ_bd (c := y1) (n := 300) (by omega)
        have b2 := pickZ_bd (c := y2) (n := 40) (by omega)
        have b3 := pickZ_bd (c := y3) (n := 6) (by omega)
        have k0 : (0 : Int) ≤ (k : Int) := by omega
        have k1 : (k : Int) < (X.length : Int) := by omega
        have k2 : (k : Int) < 40 := by omega
        have hmk : mkB [y0, y1, y2, y3] = ⟨pickZ y0 6, pickZ y1 300, pickZ y1 300 + 1 + pickZ y2 40, 1 + pickZ y3 6⟩ := rfl
        rw [hmk] at HS
        clear hc hfit hmk f0 f1 f2 f3
        generalize pickZ y0 6 = p0 at *
        generalize pickZ y1 300 = p1 at *
        generalize pickZ y2 40 = p2 at *
        generalize pickZ y3 6 = p3 at *
        go_wp2_with fail
        refine (HP1.out _).mono ?_; rintro e w1 ⟨rfl, rfl⟩
        go_wp2_with fail
        simp only [Nat.add_zero] at x0
        have d1 : IntKind.i64.wrap (p1 + 1) = p1 + 1 := IntWalk.i64_in _ (by omega)
        have d2 : IntKind.i64.wrap (p1 + 1 + p2) = p1 + 1 + p2 := IntWalk.i64_in _ (by omega)
        have d3 : IntKind.i64.wrap (1 + p3) = 1 + p3 := IntWalk.i64_in _ (by omega)
        have hs := HB.out.size
        have HO := Lib.hid (show (wr.alloc (bkObj ⟨p0, p1, p1 + 1 + p2, 1 + p3⟩)).drew.ownsRow w.heap.size 36 4 v k (bkRow ((X.take k).map mkB)) by
          have := HV.out.alloc (bkObj ⟨p0, p1, p1 + 1 + p2, 1 + p3⟩)
          rw [hkl] at this; exact this)
        have HNW := Lib.hid (World.news_of_block (w := (wr.alloc (bkObj ⟨p0, p1, p1 + 1 + p2, 1 + p3⟩)).drew) (B := wr.heap.size) (cs := #[.int .i64 p0, .int .i64 p1, .int .i64 (p1 + 1 + p2), .int .i64 (1 + p3)]) (t := 36) (fr := (0, 0)) (heap_alloc_new wr _))
        have HKp := Lib.hid (show ∀ o : Obj, (wr.alloc o).drew.cell? ⟨b, off + k * 4, none⟩ = some (.int .i64 y0) ∧ (wr.alloc o).drew.cell? ⟨b, off + k * 4 + 2, none⟩ = some (.int .i64 y2) ∧ (wr.alloc o).drew.cell? ⟨b, off + k * 4 + 3, none⟩ = some (.int .i64 y3) from fun o => ⟨cell_below (below_new wr o) x0, cell_below (below_new wr o) x2, cell_below (below_new wr o) x3⟩)
        have hbv : some b ≠ v.ownBlock := fun e => by have := (HV.out.lt b e.symm).1; omega
        have HKg := Lib.hid (show ∀ (o : Obj) (w9 : World), (wr.alloc o).drew.grownBy w9 v.ownBlock → w9.cell? ⟨b, off + k * 4, none⟩ = some (.int .i64 y0) ∧ w9.cell? ⟨b, off + k * 4 + 2, none⟩ = some (.int .i64 y2) ∧ w9.cell? ⟨b, off + k * 4 + 3, none⟩ = some (.int .i64 y3) from fun o w9 hg => ⟨hg.cell (HKp.out o).1 hbv, hg.cell (HKp.out o).2.1 hbv, hg.cell (HKp.out o).2.2 hbv⟩)
        clear hbv
        go_region_held3 (fun w' => w'.cell? ⟨b, off + k * 4, none⟩ = some (.int .i64 y0) ∧ w'.cell? ⟨b, off + k * 4 + 2, none⟩ = some (.int .i64 y2) ∧ w'.cell? ⟨b, off + k * 4 + 3, none⟩ = some (.int .i64 y3)) (first | exact ⟨x0, x2, x3⟩ | exact HKp.out _ | exact HKg.out _ _ hg9)
          (first | (refine step_append_lies _ (by rfl) _ _ _ (by rfl) w.heap.size 36 i0 _ 4 32 Try.underlying31 hi hz0 hz1 hz2 rfl (by decide) v k (bkRow ((X.take k).map mkB)) (by rfl) HO.out ⟨wr.heap.size, 0, none⟩ 1 1 [.int .i64 p0, .int .i64 p1, .int .i64 (p1 + 1 + p2), .int .i64 (1 + p3)] (by rfl) (by rfl) HNW.out (by simp [Value.oneCell']) (by decide) (by unfold maxLen; omega) (by omega) (by simp; omega) (wr.heap.size + 1) (by simp) ?_; intro g9 cap9 w9 hown9 hg9 hat9 hlt9) | (go_at_call 44; (with_reducible refine (HP0.out _).mono ?_); rintro e w' ⟨rfl, rfl⟩) | (go_at_call 44; (with_reducible refine (HP2.out _).mono ?_); rintro e w' ⟨rfl, rfl⟩) | (go_at_call 44; (with_reducible refine (HP3.out _).mono ?_); rintro e w' ⟨rfl, rfl⟩))
        all_goals
          have O3 := Lib.hid (show BkOwn w9 w.heap.size (.slice (some ⟨g9, 0, none⟩) (k + 1) cap9) ((X.take (k + 1)).map mkB) by
            rw [HS.out]; unfold BkOwn; rw [List.length_append, hkl, bkRow_append]; exact hown9)
          have G3 := Lib.hid (HB.out.trans (((Below.refl w.heap.size wr).alloc hs (bkObj ⟨p0, p1, p1 + 1 + p2, 1 + p3⟩)).drew.grown hg9 (by simp; omega) (fun kk e => (HV.out.lt kk e).1)))
          clear hown9 hg9 hat9 hlt9
          go_wp2_with fail
          go_roundw
          case rel => exact ⟨k + 1, _, by omega, by omega, by go_num, rfl, O3, G3⟩
          case measure => simp [intOf]; omega
    · have HE : Hid (someL X = (X.take k).map mkB) := Lib.hid (by
        unfold someL
        rcases Nat.lt_or_ge k X.length with h | h
        · have : k = 40 := by omega
          rw [this]
        · rw [List.take_of_length_le (by omega), List.take_of_length_le h])
      by_cases h1 : k < X.length
      · have k1 : (k : Int) < (X.length : Int) := by omega
        have k2 : ¬ (k : Int) < 40 := by omega
        go_wp2_with fail
        go_ret
        exact ⟨_, rfl, by rw [HE.out]; exact HV.out, HB.out⟩
      · have k1 : ¬ (k : Int) < (X.length : Int) := by omega
        go_wp2_with fail
        go_ret
        exact ⟨_, rfl, by rw [HE.out]; exact HV.out, HB.out⟩
end Go.Proofs.Ytjdhjlhcdpekbaa

