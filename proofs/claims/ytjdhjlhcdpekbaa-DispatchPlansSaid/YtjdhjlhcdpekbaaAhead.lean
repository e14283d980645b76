/-
  Which job is ahead, as the statements reckon it.
-/
import Derived.Test.YtjdhjlhcdpekbaaSa11
namespace Go.Proofs.Ytjdhjlhcdpekbaa
open Go.RowKit Go.Shelf Go.Sort Dsp

set_option maxRecDepth 100000 in
theorem rBy_any (x r : Int) (a b : Jb) (w : World) : Calls Try.prog 68 #[.int .i64 x, .int .i64 r, jbV a, jbV b] w fun e w' => e = .returned (.bool (byR x r a b)) ∧ Below w.heap.size w w' := by
  obtain ⟨a0, a1, a2, a3, a4, a5, a6⟩ := a
  obtain ⟨b0, b1, b2, b3, b4, b5, b6⟩ := b
  by_cases h1 : x = 1
  · subst h1
    cases a2 <;> cases b2 <;>
    · go_enter Try.func68, Try.ntmps68
      go_wp2_with fail
      go_ret
      exact ⟨rfl, below_step (below_new _ _) (below_new _ _)⟩
  by_cases h2 : x = 2
  · subst h2
    go_enter Try.func68, Try.ntmps68
    go_wp2_with fail
    go_ret
    exact ⟨rfl, below_step (below_new _ _) (below_new _ _)⟩
  by_cases h4 : x = 4
  · subst h4
    go_enter Try.func68, Try.ntmps68
    go_wp2_with fail
    go_ret
    exact ⟨rfl, below_step (below_new _ _) (below_new _ _)⟩
  by_cases h5 : x = 5
  · subst h5
    go_enter Try.func68, Try.ntmps68
    go_wp2_with fail
    go_ret
    exact ⟨rfl, below_step (below_new _ _) (below_new _ _)⟩
  by_cases h3 : x = 3
  · subst h3
    by_cases e1 : a1 = r
    · by_cases e2 : b1 = r
      · have HR := Lib.hid (show byR 3 r ⟨a0, a1, a2, a3, a4, a5, a6⟩ ⟨b0, b1, b2, b3, b4, b5, b6⟩ = false by simp [byR, e2])
        go_enter Try.func68, Try.ntmps68
        go_wp2_with fail
        go_ret
        exact ⟨ret_bool HR.out.symm, below_step (below_new _ _) (below_new _ _)⟩
      · have HR := Lib.hid (show byR 3 r ⟨a0, a1, a2, a3, a4, a5, a6⟩ ⟨b0, b1, b2, b3, b4, b5, b6⟩ = true by simp [byR, e1, e2])
        have hb : (b1 != r) = true := by simp [e2]
        go_enter Try.func68, Try.ntmps68
        go_wp2_with fail
        go_ret
        exact ⟨ret_bool (by rw [HR.out]), below_step (below_new _ _) (below_new _ _)⟩
    · have HR := Lib.hid (show byR 3 r ⟨a0, a1, a2, a3, a4, a5, a6⟩ ⟨b0, b1, b2, b3, b4, b5, b6⟩ = false by simp [byR, e1])
      go_enter Try.func68, Try.ntmps68
      go_wp2_with fail
      go_ret
      exact ⟨ret_bool HR.out.symm, below_step (below_new _ _) (below_new _ _)⟩
  have g1 : (x == 1) = false := by simp [h1]
  have g2 : (x == 2) = false := by simp [h2]
  have g3 : (x == 3) = false := by simp [h3]
  have g4 : (x == 4) = false := by simp [h4]
  have g5 : (x == 5) = false := by simp [h5]
  have HR := Lib.hid (show byR x r ⟨a0, a1, a2, a3, a4, a5, a6⟩ ⟨b0, b1, b2, b3, b4, b5, b6⟩ = decide (b6 < a6) by unfold byR; rw [if_neg h1, if_neg h2, if_neg h3, if_neg h4, if_neg h5])
  go_enter Try.func68, Try.ntmps68
  go_wp2_with fail
  go_ret
  exact ⟨ret_bool HR.out.symm, below_step (below_new _ _) (below_new _ _)⟩

theorem undrew {w w' : World} (h : Below w.drew.heap.size w.drew w') : Below w.heap.size w w' := ⟨h.os, h.tape, h.output, h.size, h.block⟩
theorem ahead_cons (x : Int) (l : List Int) (r : Int) (a b : Jb) : Dsp.ahead (x :: l) r a b = if byR x r a b = byR x r b a then Dsp.ahead l r a b else byR x r a b := by
  rw [Dsp.ahead]
  have h := byR_asymm x r a b
  cases h1 : byR x r a b <;> cases h2 : byR x r b a <;> simp_all

set_option maxRecDepth 100000 in
set_option maxHeartbeats 2000000 in
theorem ahead_any (rs : List Int) (p : Option Addr) (c : Nat) (r : Int) (a b : Jb) (w : World) (h : IntA w p c rs) (hl : rs.length ≤ 1000) : Calls Try.prog 41 #[.slice p rs.length c, .int .i64 r, jbV a, jbV b] w fun e w' => e = .returned (.bool (Dsp.ahead rs r a b)) ∧ Below w.heap.size w w' := by
  have H := Lib.hid h
  clear h
  obtain ⟨a0, a1, a2, a3, a4, a5, a6⟩ := a
  obtain ⟨q0, q1, q2, q3, q4, q5, q6⟩ := b
  have hq : ∃ f, f = Dsp.ahead rs r ⟨a0, a1, a2, a3, a4, a5, a6⟩ ⟨q0, q1, q2, q3, q4, q5, q6⟩ := ⟨_, rfl⟩
  obtain ⟨f, hf⟩ := hq
  have HF := Lib.hid hf
  rw [← hf]
  clear hf
  go_enter Try.func41, Try.ntmps41
  go_wp2_with fail
  go_loopw [9] (fun i wr => ∃ k : Nat, k ≤ rs.length ∧ i = .int .i64 (k : Int) ∧ Hid (Dsp.ahead (rs.drop k) r ⟨a0, a1, a2, a3, a4, a5, a6⟩ ⟨q0, q1, q2, q3, q4, q5, q6⟩ = f) ∧ Hid (Below w.heap.size w wr) ∧ Hid (JbC wr w.heap.size 0 ⟨a0, a1, a2, a3, a4, a5, a6⟩ ∧ JbC wr (w.heap.size + 1) 0 ⟨q0, q1, q2, q3, q4, q5, q6⟩)) (fun i _ => rs.length - (intOf i).toNat)
  case atStart => exact ⟨0, Nat.zero_le _, rfl, Lib.hid HF.out.symm, Lib.hid (below_step (below_new _ _) (below_new _ _)), Lib.hid ⟨by unfold JbC; go_simp, by unfold JbC; go_simp⟩⟩
  case round =>
    obtain ⟨k, hk, rfl, HE, HB, HJ⟩ := hrel
    by_cases hlt : k < rs.length
    · obtain ⟨g, off, rfl, hg, hc⟩ := H.out.2.2 k hlt
      have hc' := cell_below HB.out hc
      have HS := Lib.hid (show Dsp.ahead (rs.drop k) r ⟨a0, a1, a2, a3, a4, a5, a6⟩ ⟨q0, q1, q2, q3, q4, q5, q6⟩ = if byR rs[k] r ⟨a0, a1, a2, a3, a4, a5, a6⟩ ⟨q0, q1, q2, q3, q4, q5, q6⟩ = byR rs[k] r ⟨q0, q1, q2, q3, q4, q5, q6⟩ ⟨a0, a1, a2, a3, a4, a5, a6⟩ then Dsp.ahead (rs.drop (k + 1)) r ⟨a0, a1, a2, a3, a4, a5, a6⟩ ⟨q0, q1, q2, q3, q4, q5, q6⟩ else byR rs[k] r ⟨a0, a1, a2, a3, a4, a5, a6⟩ ⟨q0, q1, q2, q3, q4, q5, q6⟩ by rw [List.drop_eq_getElem_cons hlt]; exact ahead_cons _ _ _ _ _)
      have HC1 := Lib.hid (fun w => rBy_any rs[k] r ⟨a0, a1, a2, a3, a4, a5, a6⟩ ⟨q0, q1, q2, q3, q4, q5, q6⟩ w)
      have HC2 := Lib.hid (fun w => rBy_any rs[k] r ⟨q0, q1, q2, q3, q4, q5, q6⟩ ⟨a0, a1, a2, a3, a4, a5, a6⟩ w)
      obtain ⟨⟨j0, j1, j2, j3, j4, j5, j6⟩, ⟨i0, i1, i2, i3, i4, i5, i6⟩⟩ := HJ.out
      simp only [Nat.zero_add] at j0 j1 j2 j3 j4 j5 j6 i0 i1 i2 i3 i4 i5 i6
      have k0 : (0 : Int) ≤ (k : Int) := by omega
      have k1 : (k : Int) < (rs.length : Int) := by omega
      clear hc
      generalize byR rs[k] r ⟨a0, a1, a2, a3, a4, a5, a6⟩ ⟨q0, q1, q2, q3, q4, q5, q6⟩ = x at *
      generalize byR rs[k] r ⟨q0, q1, q2, q3, q4, q5, q6⟩ ⟨a0, a1, a2, a3, a4, a5, a6⟩ = y at *
      generalize rs[k] = z at *
      have S0 := Lib.hid (show wr.cell? ⟨g, off + k, none⟩ = some (.int .i64 z) ∧ wr.cell? ⟨w.heap.size, 0, none⟩ = some (.int .i64 a0) ∧ wr.cell? ⟨w.heap.size, 1, none⟩ = some (.int .i64 a1) ∧ wr.cell? ⟨w.heap.size, 2, none⟩ = some (.bool a2) ∧ wr.cell? ⟨w.heap.size, 3, none⟩ = some (.int .i64 a3) ∧ wr.cell? ⟨w.heap.size, 4, none⟩ = some (.int .i64 a4) ∧ wr.cell? ⟨w.heap.size, 5, none⟩ = some (.int .i64 a5) ∧ wr.cell? ⟨w.heap.size, 6, none⟩ = some (.int .i64 a6) ∧ wr.cell? ⟨w.heap.size + 1, 0, none⟩ = some (.int .i64 q0) ∧ wr.cell? ⟨w.heap.size + 1, 1, none⟩ = some (.int .i64 q1) ∧ wr.cell? ⟨w.heap.size + 1, 2, none⟩ = some (.bool q2) ∧ wr.cell? ⟨w.heap.size + 1, 3, none⟩ = some (.int .i64 q3) ∧ wr.cell? ⟨w.heap.size + 1, 4, none⟩ = some (.int .i64 q4) ∧ wr.cell? ⟨w.heap.size + 1, 5, none⟩ = some (.int .i64 q5) ∧ wr.cell? ⟨w.heap.size + 1, 6, none⟩ = some (.int .i64 q6) from ⟨hc', j0, j1, j2, j3, j4, j5, j6, i0, i1, i2, i3, i4, i5, i6⟩)
      have KP := Lib.hid (show ∀ v v' : World, (v.cell? ⟨g, off + k, none⟩ = some (.int .i64 z) ∧ v.cell? ⟨w.heap.size, 0, none⟩ = some (.int .i64 a0) ∧ v.cell? ⟨w.heap.size, 1, none⟩ = some (.int .i64 a1) ∧ v.cell? ⟨w.heap.size, 2, none⟩ = some (.bool a2) ∧ v.cell? ⟨w.heap.size, 3, none⟩ = some (.int .i64 a3) ∧ v.cell? ⟨w.heap.size, 4, none⟩ = some (.int .i64 a4) ∧ v.cell? ⟨w.heap.size, 5, none⟩ = some (.int .i64 a5) ∧ v.cell? ⟨w.heap.size, 6, none⟩ = some (.int .i64 a6) ∧ v.cell? ⟨w.heap.size + 1, 0, none⟩ = some (.int .i64 q0) ∧ v.cell? ⟨w.heap.size + 1, 1, none⟩ = some (.int .i64 q1) ∧ v.cell? ⟨w.heap.size + 1, 2, none⟩ = some (.bool q2) ∧ v.cell? ⟨w.heap.size + 1, 3, none⟩ = some (.int .i64 q3) ∧ v.cell? ⟨w.heap.size + 1, 4, none⟩ = some (.int .i64 q4) ∧ v.cell? ⟨w.heap.size + 1, 5, none⟩ = some (.int .i64 q5) ∧ v.cell? ⟨w.heap.size + 1, 6, none⟩ = some (.int .i64 q6)) → Below v.heap.size v v' → (v'.cell? ⟨g, off + k, none⟩ = some (.int .i64 z) ∧ v'.cell? ⟨w.heap.size, 0, none⟩ = some (.int .i64 a0) ∧ v'.cell? ⟨w.heap.size, 1, none⟩ = some (.int .i64 a1) ∧ v'.cell? ⟨w.heap.size, 2, none⟩ = some (.bool a2) ∧ v'.cell? ⟨w.heap.size, 3, none⟩ = some (.int .i64 a3) ∧ v'.cell? ⟨w.heap.size, 4, none⟩ = some (.int .i64 a4) ∧ v'.cell? ⟨w.heap.size, 5, none⟩ = some (.int .i64 a5) ∧ v'.cell? ⟨w.heap.size, 6, none⟩ = some (.int .i64 a6) ∧ v'.cell? ⟨w.heap.size + 1, 0, none⟩ = some (.int .i64 q0) ∧ v'.cell? ⟨w.heap.size + 1, 1, none⟩ = some (.int .i64 q1) ∧ v'.cell? ⟨w.heap.size + 1, 2, none⟩ = some (.bool q2) ∧ v'.cell? ⟨w.heap.size + 1, 3, none⟩ = some (.int .i64 q3) ∧ v'.cell? ⟨w.heap.size + 1, 4, none⟩ = some (.int .i64 q4) ∧ v'.cell? ⟨w.heap.size + 1, 5, none⟩ = some (.int .i64 q5) ∧ v'.cell? ⟨w.heap.size + 1, 6, none⟩ = some (.int .i64 q6)) from fun v v' h hb => ⟨cell_below hb h.1, cell_below hb h.2.1, cell_below hb h.2.2.1, cell_below hb h.2.2.2.1, cell_below hb h.2.2.2.2.1, cell_below hb h.2.2.2.2.2.1, cell_below hb h.2.2.2.2.2.2.1, cell_below hb h.2.2.2.2.2.2.2.1, cell_below hb h.2.2.2.2.2.2.2.2.1, cell_below hb h.2.2.2.2.2.2.2.2.2.1, cell_below hb h.2.2.2.2.2.2.2.2.2.2.1, cell_below hb h.2.2.2.2.2.2.2.2.2.2.2.1, cell_below hb h.2.2.2.2.2.2.2.2.2.2.2.2.1, cell_below hb h.2.2.2.2.2.2.2.2.2.2.2.2.2.1, cell_below hb h.2.2.2.2.2.2.2.2.2.2.2.2.2.2⟩)
      clear hc' j0 j1 j2 j3 j4 j5 j6 i0 i1 i2 i3 i4 i5 i6
      go_wp2_with fail
      go_region_held3 (fun v => v.cell? ⟨g, off + k, none⟩ = some (.int .i64 z) ∧ v.cell? ⟨w.heap.size, 0, none⟩ = some (.int .i64 a0) ∧ v.cell? ⟨w.heap.size, 1, none⟩ = some (.int .i64 a1) ∧ v.cell? ⟨w.heap.size, 2, none⟩ = some (.bool a2) ∧ v.cell? ⟨w.heap.size, 3, none⟩ = some (.int .i64 a3) ∧ v.cell? ⟨w.heap.size, 4, none⟩ = some (.int .i64 a4) ∧ v.cell? ⟨w.heap.size, 5, none⟩ = some (.int .i64 a5) ∧ v.cell? ⟨w.heap.size, 6, none⟩ = some (.int .i64 a6) ∧ v.cell? ⟨w.heap.size + 1, 0, none⟩ = some (.int .i64 q0) ∧ v.cell? ⟨w.heap.size + 1, 1, none⟩ = some (.int .i64 q1) ∧ v.cell? ⟨w.heap.size + 1, 2, none⟩ = some (.bool q2) ∧ v.cell? ⟨w.heap.size + 1, 3, none⟩ = some (.int .i64 q3) ∧ v.cell? ⟨w.heap.size + 1, 4, none⟩ = some (.int .i64 q4) ∧ v.cell? ⟨w.heap.size + 1, 5, none⟩ = some (.int .i64 q5) ∧ v.cell? ⟨w.heap.size + 1, 6, none⟩ = some (.int .i64 q6)) (first | exact S0.out | exact KP.out _ _ (by assumption) b4) (first | (go_at_call 68; (with_reducible refine (HC1.out _).mono ?_); rintro e w4 ⟨rfl, b4⟩))
      replace b4 := undrew b4
      have S1 := Lib.hid (KP.out _ _ S0.out (show Below wr.heap.size wr w4 from b4))
      have B1 := Lib.hid (below_step HB.out (show Below wr.heap.size wr w4 from b4))
      have HJ1 := Lib.hid (show JbC w4 w.heap.size 0 ⟨a0, a1, a2, a3, a4, a5, a6⟩ ∧ JbC w4 (w.heap.size + 1) 0 ⟨q0, q1, q2, q3, q4, q5, q6⟩ from ⟨HJ.out.1.below b4, HJ.out.2.below b4⟩)
      clear b4
      go_wp2_with fail
      go_region_held3 (fun v => v.cell? ⟨g, off + k, none⟩ = some (.int .i64 z) ∧ v.cell? ⟨w.heap.size, 0, none⟩ = some (.int .i64 a0) ∧ v.cell? ⟨w.heap.size, 1, none⟩ = some (.int .i64 a1) ∧ v.cell? ⟨w.heap.size, 2, none⟩ = some (.bool a2) ∧ v.cell? ⟨w.heap.size, 3, none⟩ = some (.int .i64 a3) ∧ v.cell? ⟨w.heap.size, 4, none⟩ = some (.int .i64 a4) ∧ v.cell? ⟨w.heap.size, 5, none⟩ = some (.int .i64 a5) ∧ v.cell? ⟨w.heap.size, 6, none⟩ = some (.int .i64 a6) ∧ v.cell? ⟨w.heap.size + 1, 0, none⟩ = some (.int .i64 q0) ∧ v.cell? ⟨w.heap.size + 1, 1, none⟩ = some (.int .i64 q1) ∧ v.cell? ⟨w.heap.size + 1, 2, none⟩ = some (.bool q2) ∧ v.cell? ⟨w.heap.size + 1, 3, none⟩ = some (.int .i64 q3) ∧ v.cell? ⟨w.heap.size + 1, 4, none⟩ = some (.int .i64 q4) ∧ v.cell? ⟨w.heap.size + 1, 5, none⟩ = some (.int .i64 q5) ∧ v.cell? ⟨w.heap.size + 1, 6, none⟩ = some (.int .i64 q6)) (first | exact S1.out | exact KP.out _ _ (by assumption) b5) (first | (go_at_call 68; (with_reducible refine (HC2.out _).mono ?_); rintro e w5 ⟨rfl, b5⟩))
      replace b5 := undrew b5
      have B2 := Lib.hid (below_step B1.out (show Below w4.heap.size w4 w5 from b5))
      have HJ2 := Lib.hid (show JbC w5 w.heap.size 0 ⟨a0, a1, a2, a3, a4, a5, a6⟩ ∧ JbC w5 (w.heap.size + 1) 0 ⟨q0, q1, q2, q3, q4, q5, q6⟩ from ⟨HJ1.out.1.below b5, HJ1.out.2.below b5⟩)
      clear b5
      cases x <;> cases y
      case false.false =>
        have HR := Lib.hid (show Dsp.ahead (rs.drop (k + 1)) r ⟨a0, a1, a2, a3, a4, a5, a6⟩ ⟨q0, q1, q2, q3, q4, q5, q6⟩ = f by rw [← HE.out, HS.out, if_pos rfl])
        go_wp2_with fail
        go_roundw
        case rel => exact ⟨k + 1, hlt, by go_num, HR, B2, HJ2⟩
        case measure => simp [intOf]; omega
      case true.true =>
        have HR := Lib.hid (show Dsp.ahead (rs.drop (k + 1)) r ⟨a0, a1, a2, a3, a4, a5, a6⟩ ⟨q0, q1, q2, q3, q4, q5, q6⟩ = f by rw [← HE.out, HS.out, if_pos rfl])
        go_wp2_with fail
        go_roundw
        case rel => exact ⟨k + 1, hlt, by go_num, HR, B2, HJ2⟩
        case measure => simp [intOf]; omega
      case false.true =>
        have HR := Lib.hid (show false = f by rw [← HE.out, HS.out, if_neg (by decide)])
        go_wp2_with fail
        go_ret
        exact ⟨ret_bool HR.out, B2.out⟩
      case true.false =>
        have HR := Lib.hid (show true = f by rw [← HE.out, HS.out, if_neg (by decide)])
        go_wp2_with fail
        go_ret
        exact ⟨ret_bool HR.out, B2.out⟩
    · have k1 : ¬ (k : Int) < (rs.length : Int) := by omega
      have HR := Lib.hid (show decide (a0 < q0) = f by rw [← HE.out, List.drop_of_length_le (by omega)]; rfl)
      obtain ⟨⟨j0, -⟩, ⟨i0, -⟩⟩ := HJ.out
      go_wp2_with fail
      go_ret
      exact ⟨ret_bool HR.out, HB.out⟩
end Go.Proofs.Ytjdhjlhcdpekbaa
