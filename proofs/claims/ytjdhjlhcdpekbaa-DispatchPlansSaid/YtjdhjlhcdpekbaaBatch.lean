/-
  dispatch's Batch; rows of integers.
-/
import Derived.Test.YtjdhjlhcdpekbaaOrd
namespace Go.Proofs.Ytjdhjlhcdpekbaa
open Go.RowKit Go.Shelf Go.Sort Dsp

def intRow (l : List Int) : List Value := l.map (Value.int .i64)
abbrev IntOwn (w : World) (B : Nat) (v : Value) (l : List Int) : Prop := w.ownsRow B 3 1 v l.length (intRow l)
theorem IntOwn.nil (w : World) (B : Nat) : IntOwn w B (.slice none 0 0) [] := World.ownsRow_nil _ _ _ _
theorem IntOwn.snoc {w : World} {B : Nat} {v : Value} {l : List Int} {x : Int} (h : w.ownsRow B 3 1 v (l.length + 1) (intRow l ++ [.int .i64 x])) : IntOwn w B v (l ++ [x]) := by
  unfold IntOwn intRow at *; rw [List.length_append, List.map_append]; exact h
theorem IntOwn.mono {w : World} {B B' : Nat} {v : Value} {l : List Int} (h : IntOwn w B v l) (hB : B' ≤ B) : IntOwn w B' v l := by
  obtain ⟨h1, h2 | ⟨g, cap, cur, rfl, h2, h3, h4⟩⟩ := h
  · exact ⟨h1, .inl h2⟩
  · exact ⟨h1, .inr ⟨g, cap, cur, rfl, Nat.le_trans hB h2, h3, h4⟩⟩
theorem IntOwn.arg {w : World} {B : Nat} {v : Value} {l : List Int} (h : IntOwn w B v l) : ∃ a c, v = .slice a l.length c ∧ IntA w a c l := by
  obtain ⟨a, c, rfl, h1, h2, h3⟩ := own_slice h
  refine ⟨a, c, rfl, h1, h2, fun i hi => ?_⟩
  obtain ⟨g, rfl, hg, hc⟩ := h3 (by omega)
  exact ⟨g, 0, rfl, hg, hc i _ (by simp [intRow, List.getElem?_eq_getElem hi])⟩
theorem info_int : (Try.prog.info? 3).map (fun i => (i.zero, i.size, i.bytes)) = some (some (.int .i64 0), 1, 8) := by kernel_rfl
def NewInts (w : World) (l : List Int) (e : Ending) (w' : World) : Prop := ∃ v, e = .returned v ∧ IntOwn w' w.heap.size v l ∧ Below w.heap.size w w'

def batS (L : List Jb) (k : Nat) : List Int := ((L.take k).filter fun j => decide (j.rcp = (L[0]?.getD default).rcp)).map (·.lot)
def batchL (L : List Jb) : List Int := (batS L L.length).take 6
theorem batS_succ {L : List Jb} {k : Nat} (h : k < L.length) : batS L (k + 1) = batS L k ++ if L[k].rcp = (L[0]?.getD default).rcp then [L[k].lot] else [] := by
  unfold batS; rw [List.take_succ_eq_append_getElem h, List.filter_append, List.map_append]
  congr 1
  by_cases hp : L[k].rcp = (L[0]?.getD default).rcp <;> simp [hp]

set_option maxRecDepth 100000 in
set_option maxHeartbeats 2000000 in
theorem Batch_any (rs : List Int) (ra : Option Addr) (rc : Nat) (l : List Jb) (a : Option Addr) (c : Nat) (w : World) (hr : IntA w ra rc rs) (hrl : rs.length ≤ 1000) (hl : l.length < 20) (h : JbA w a c l) :
    Calls Try.prog 25 #[.slice ra rs.length rc, .slice a l.length c] w (NewInts w (batchL (orderV rs 0 l))) := by
  unfold NewInts
  have HO := Lib.hid (Order_any rs ra rc 0 l a c _ hr hrl hl h)
  unfold NewJobs at HO
  have HL : Hid ((orderV rs 0 l).length ≤ 20) := Lib.hid (by
    unfold orderV; split
    · rw [order_len]; omega
    · simp)
  generalize orderV rs 0 l = L at *
  obtain ⟨i0, hi, hz0, hz1, hz2⟩ := info_parts info_int
  clear hr h hrl hl
  go_enter Try.func25, Try.ntmps25
  go_wp2_with fail
  refine HO.out.mono ?_
  rintro _ w1 ⟨v1, rfl, o1, b1⟩
  obtain ⟨a1, c1, rfl, ha1, -⟩ := o1.arg
  have HA := Lib.hid ha1; have B1 := Lib.hid b1
  have hLl := HL.out
  clear o1 ha1 b1 HO
  go_wp2_with fail
  go_loopw [6, 14] (fun vv i wr => ∃ (k : Nat) (v : Value) (n : Nat), k ≤ L.length ∧ i = .int .i64 (k : Int) ∧ v = vv ∧ Hid (n = ((batS L k).take 6).length) ∧ Hid (wr.ownsRow w1.heap.size 3 1 v n (intRow ((batS L k).take 6))) ∧ Hid (Below w1.heap.size w1 wr)) (fun _ i _ => L.length - (intOf i).toNat)
  case atStart => exact ⟨0, _, 0, Nat.zero_le _, rfl, rfl, Lib.hid (by simp [batS]), Lib.hid (by simpa [batS, intRow] using World.ownsRow_nil _ _ _ _), Lib.hid (Below.refl _ _)⟩
  case round =>
    obtain ⟨k, v, n, hk, rfl, rfl, HNn, HV, HB⟩ := hrel
    by_cases hlt : k < L.length
    · obtain ⟨b, off, rfl, hb, hc⟩ := (HA.out.below HB.out).at (by omega)
      obtain ⟨x0, x1, x2, x3, x4, x5, x6⟩ := hc k hlt
      obtain ⟨-, y1, -⟩ := hc 0 (by omega)
      have HS := Lib.hid (batS_succ hlt)
      have k0 : (0 : Int) ≤ (k : Int) := by omega
      have k1 : (k : Int) < (L.length : Int) := by omega
      have k2 : (0 : Int) < (L.length : Int) := by omega
      have e00 : (L[0]?.getD default) = L[0] := by rw [List.getElem?_eq_getElem (by omega)]; rfl
      rw [e00] at HS
      simp only [Nat.zero_mul, Nat.add_zero] at y1
      clear hc e00
      generalize L[0].rcp = q0 at *
      generalize L[k] = j at *
      obtain ⟨j0, j1, j2, j3, j4, j5, j6⟩ := j
      simp only at x0 x1 x2 x3 x4 x5 x6 HS
      have hbs : b < wr.heap.size := hb
      have y1' : ∀ o : Obj, (wr.alloc o).cell? ⟨b, off + 1, none⟩ = some (.int .i64 q0) := fun o => cell_below (below_new wr o) y1
      have hn6 : n ≤ 6 := by have := HNn.out; rw [this]; simp; omega
      have HV2 := Lib.hid (HV.out.alloc (.cells #[.int .i64 j0, .int .i64 j1, .bool j2, .int .i64 j3, .int .i64 j4, .int .i64 j5, .int .i64 j6] 43))
      have HB2 := Lib.hid (HB.out.trans ((below_new wr (.cells #[.int .i64 j0, .int .i64 j1, .bool j2, .int .i64 j3, .int .i64 j4, .int .i64 j5, .int .i64 j6] 43)).mono HB.out.size))
      obtain ⟨av, cv, hv, -⟩ := own_slice HV.out
      subst hv
      by_cases h6 : n < 6
      · have d6 : (n : Int) < 6 := by omega
        by_cases hp : j1 = q0
        · subst hp
          go_wp2_with fail
          go_quiet (fail)
          generalize hW : (wr.alloc (.cells #[.int .i64 j0, .int .i64 j1, .bool j2, .int .i64 j3, .int .i64 j4, .int .i64 j5, .int .i64 j6] 43)).drewN nq = w5
          have HV5 := Lib.hid (show w5.ownsRow w1.heap.size 3 1 (.slice av n cv) n (intRow ((batS L k).take 6)) from by rw [← hW]; exact HV2.out)
          have HB5 := Lib.hid (show Below w1.heap.size w1 w5 from by rw [← hW]; exact below_drewN HB2.out _)
          have c5 : w5.cell? ⟨wr.heap.size, 0, none⟩ = some (.int .i64 j0) := by rw [← hW, World.cell?_drewN]; go_simp
          clear hW
          go_wp2_with (at_builtin; refine wpList_append_own _ rfl _ _ 23 rfl w1.heap.size 3 i0 (.int .i64 0) 1 8 Try.underlying23 hi hz0 hz1 hz2 rfl (by decide) _ _ _ rfl (HV5.out.alloc _) ⟨w5.heap.size, 0, none⟩ 1 1 [.int .i64 j0] rfl rfl (cell_one_new _ _ _) (by simp [Value.oneCell']) (by unfold maxLen; omega) (by omega) (by have := HB5.out.size; simp; omega) ?_; intro v' w6 hown' hgrow _)
          have O6 := Lib.hid (show w6.ownsRow w1.heap.size 3 1 v' (n + 1) (intRow ((batS L (k + 1)).take 6)) from by
            have e : (batS L (k + 1)).take 6 = (batS L k).take 6 ++ [j0] := by
              have hlen : (batS L k).length < 6 := by have := HNn.out; rw [this] at h6; simp at h6; omega
              simp only [HS.out, if_true]; rw [List.take_of_length_le (by simp; omega), List.take_of_length_le (by omega)]
            rw [e]; unfold intRow at hown' ⊢; rw [List.map_append]; exact hown')
          have N6 := Lib.hid (show n + 1 = ((batS L (k + 1)).take 6).length from by
            have := HNn.out
            have hlen : (batS L k).length < 6 := by rw [this] at h6; simp at h6; omega
            simp only [HS.out, if_true]; rw [List.length_take, List.length_append]; rw [List.length_take] at this; simp; omega)
          have G6 := Lib.hid (HB5.out.trans (((Below.refl w1.heap.size w5).alloc HB5.out.size (.cells #[.int .i64 j0] 3)).grown hgrow (by have := HB5.out.size; simp; omega) (fun kk e => (HV5.out.lt kk e).1)))
          clear hown' hgrow HV5 HB5
          go_wp2_with fail
          go_roundw
          case rel => exact ⟨k + 1, _, n + 1, hlt, by go_num, rfl, N6, O6, G6⟩
          case measure => simp [intOf]; omega
        · have HE := Lib.hid (show batS L (k + 1) = batS L k by rw [HS.out, if_neg hp]; simp)
          have hpb : (j1 == q0) = false := by simp [hp]
          go_wp2_with fail
          go_quiet (fail)
          go_wp2_with fail
          go_roundw
          case rel => exact ⟨k + 1, _, n, hlt, by go_num, rfl, by rw [HE.out]; exact HNn, by rw [HE.out]; exact HV2, Lib.hid (below_drewN HB2.out _)⟩
          case measure => simp [intOf]; omega
      · have d6 : ¬ (n : Int) < 6 := by omega
        have d6' : decide ((n : Int) < 6) = false := by simp; omega
        have HE := Lib.hid (show (batS L (k + 1)).take 6 = (batS L k).take 6 by
          have := HNn.out
          have hlen : 6 ≤ (batS L k).length := by rw [this] at h6; simp at h6; omega
          rw [HS.out, List.take_append_of_le_length hlen])
        go_wp2_with fail
        go_quiet (fail)
        go_wp2_with fail
        go_roundw
        case rel => exact ⟨k + 1, _, n, hlt, by go_num, rfl, by rw [HE.out]; exact HNn, by rw [HE.out]; exact HV2, Lib.hid (below_drewN HB2.out _)⟩
        case measure => simp [intOf]; omega
    · have k1 : ¬ (k : Int) < (L.length : Int) := by omega
      obtain rfl : k = L.length := by omega
      have HR := Lib.hid (show IntOwn wr w.heap.size v (batchL L) from by
        have h1 := HV.out; rw [HNn.out] at h1; exact IntOwn.mono h1 B1.out.size)
      have HB3 := Lib.hid (below_step B1.out HB.out)
      go_wp2_with fail
      go_ret
      exact ⟨v, rfl, HR.out, HB3.out⟩
end Go.Proofs.Ytjdhjlhcdpekbaa
