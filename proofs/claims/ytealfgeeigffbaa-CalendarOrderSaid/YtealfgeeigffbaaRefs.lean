/-
  The statements' helpers: the reference's Valid and Same.
-/
import Derived.Test.YtealfgeeigffbaaFirstA
namespace Go.Proofs.Ytealfgeeigffbaa
open Go.RowKit Go.Shelf

set_option maxRecDepth 100000 in
theorem refValid_any (b : Kal.Bk) (w : World) : Calls Try.prog 29 #[bkV b] w fun e w' => e = .returned (.bool (Kal.okB b)) ∧ Below w.heap.size w w' := by
  have HO : Hid (Kal.okB b = (decide (0 ≤ b.tool) && decide (b.tool < 60) && decide (0 ≤ b.s) && decide (b.s < b.e) && decide (b.e ≤ 1000000) && decide (1 ≤ b.o) && decide (b.o ≤ 1000000))) := Lib.hid rfl
  rw [HO.out]
  obtain ⟨t, s, e, o⟩ := b
  simp only
  by_cases h0 : 0 ≤ t
  · by_cases h00 : t < 60
    · by_cases h1 : 0 ≤ s
      · by_cases h2 : s < e
        · by_cases h3 : e ≤ 1000000
          · by_cases h4 : 1 ≤ o
            · go_enter Try.func29, Try.ntmps29
              go_wp2_with fail
              go_ret
              exact ⟨by simp, below_new _ _⟩
            · go_enter Try.func29, Try.ntmps29
              go_wp2_with fail
              go_ret
              exact ⟨by simp; intros; omega, below_new _ _⟩
          · go_enter Try.func29, Try.ntmps29
            go_wp2_with fail
            go_ret
            exact ⟨by simp; intros; omega, below_new _ _⟩
        · go_enter Try.func29, Try.ntmps29
          go_wp2_with fail
          go_ret
          exact ⟨by simp; intros; omega, below_new _ _⟩
      · go_enter Try.func29, Try.ntmps29
        go_wp2_with fail
        go_ret
        exact ⟨by simp; intros; omega, below_new _ _⟩
    · go_enter Try.func29, Try.ntmps29
      go_wp2_with fail
      go_ret
      exact ⟨by simp; intros; omega, below_new _ _⟩
  · go_enter Try.func29, Try.ntmps29
    go_wp2_with fail
    go_ret
    exact ⟨by simp; intros; omega, below_new _ _⟩

set_option maxRecDepth 100000 in
set_option maxHeartbeats 2000000 in
theorem refSame_any (L M : List Kal.Bk) (a : Option Addr) (c : Nat) (a' : Option Addr) (c' : Nat) (w : World) (hL : BkA w a c L) (hM : BkA w a' c' M) :
    Calls Try.prog 23 #[.slice a L.length c, .slice a' M.length c'] w fun e w' => e = .returned (.bool (decide (L = M))) ∧ Below w.heap.size w w' := by
  have hl1 := Nat.le_trans hL.1 hL.2.1; have hl2 := Nat.le_trans hM.1 hM.2.1
  unfold maxLen at hl1 hl2
  by_cases hn : L.length = M.length
  · have HL := Lib.hid hL; have HM := Lib.hid hM; have HN := Lib.hid hn
    have hb : ((L.length : Int) != (M.length : Int)) = false := by simp [hn]
    clear hL hM hn
    go_enter Try.func23, Try.ntmps23
    go_wp2_with fail
    go_loopw [5] (fun i wr => ∃ k : Nat, k ≤ L.length ∧ i = .int .i64 (k : Int) ∧ Hid (L.take k = M.take k) ∧ Hid (Below w.heap.size w wr)) (fun i _ => L.length - (intOf i).toNat)
    case atStart => exact ⟨0, by omega, rfl, Lib.hid rfl, Lib.hid (Below.refl _ _)⟩
    case round =>
      obtain ⟨k, hk, rfl, HE, HB⟩ := hrel
      by_cases hlt : k < L.length
      · have hlt2 : k < M.length := by have := HN.out; omega
        obtain ⟨b, off, rfl, hb1, hc1⟩ := (HL.out.below HB.out).at (by omega)
        obtain ⟨b2, off2, rfl, hb2, hc2⟩ := (HM.out.below HB.out).at (by omega)
        obtain ⟨x0, x1, x2, x3⟩ := hc1 k hlt
        obtain ⟨y0, y1, y2, y3⟩ := hc2 k hlt2
        have HY := Lib.hid (show L[k] = M[k] → L.take (k + 1) = M.take (k + 1) from fun h => by rw [List.take_succ_eq_append_getElem hlt, List.take_succ_eq_append_getElem hlt2, HE.out, h])
        have HX := Lib.hid (show L[k] ≠ M[k] → L ≠ M from fun h e => h (by subst e; rfl))
        have k0 : (0 : Int) ≤ (k : Int) := by omega
        have k1 : (k : Int) < (L.length : Int) := by omega
        have k2 : (k : Int) < (M.length : Int) := by omega
        clear hc1 hc2
        generalize L[k] = x at *
        generalize M[k] = y at *
        obtain ⟨p0, p1, p2, p3⟩ := x
        obtain ⟨q0, q1, q2, q3⟩ := y
        simp only at x0 x1 x2 x3 y0 y1 y2 y3
        have HBF := Lib.hid (fun h => (decide_eq_false (HX.out h)).symm)
        by_cases e0 : p0 = q0
        · subst e0
          by_cases e1 : p1 = q1
          · subst e1
            by_cases e2 : p2 = q2
            · subst e2
              by_cases e3 : p3 = q3
              · subst e3
                have HE2 := Lib.hid (HY.out rfl)
                go_wp2_with fail
                go_quiet (fail)
                go_wp2_with fail
                go_roundw
                case rel => exact ⟨k + 1, hlt, by go_num, HE2, Lib.hid (below_drewN HB.out _)⟩
                case measure => simp [intOf]; omega
              · have HR := Lib.hid (HBF.out (fun h => e3 (by injection h)))
                go_wp2_with fail
                go_quiet (fail)
                go_wp2_with fail
                go_ret
                exact ⟨ret_bool HR.out, below_drewN HB.out _⟩
            · have HR := Lib.hid (HBF.out (fun h => e2 (by injection h)))
              go_wp2_with fail
              go_quiet (fail)
              go_wp2_with fail
              go_ret
              exact ⟨ret_bool HR.out, below_drewN HB.out _⟩
          · have HR := Lib.hid (HBF.out (fun h => e1 (by injection h)))
            go_wp2_with fail
            go_quiet (fail)
            go_wp2_with fail
            go_ret
            exact ⟨ret_bool HR.out, below_drewN HB.out _⟩
        · have HR := Lib.hid (HBF.out (fun h => e0 (by injection h)))
          go_wp2_with fail
          go_quiet (fail)
          go_wp2_with fail
          go_ret
          exact ⟨ret_bool HR.out, below_drewN HB.out _⟩
      · have HR := Lib.hid (show true = decide (L = M) by
          have h1 := HE.out
          rw [List.take_of_length_le (by omega), List.take_of_length_le (by have := HN.out; omega)] at h1
          rw [h1]; simp)
        have k1 : ¬ (k : Int) < (L.length : Int) := by omega
        go_wp2_with fail
        go_ret
        exact ⟨ret_bool HR.out, HB.out⟩
  · have hb : ((L.length : Int) != (M.length : Int)) = true := by simpa using (fun h : (L.length : Int) = M.length => hn (by omega))
    have HR := Lib.hid (show false = decide (L = M) from (decide_eq_false (fun h => hn (by rw [h]))).symm)
    clear hn hL hM
    go_enter Try.func23, Try.ntmps23
    go_wp2_with fail
    go_ret
    exact ⟨ret_bool HR.out, Below.refl _ _⟩
end Go.Proofs.Ytealfgeeigffbaa
