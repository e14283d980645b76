/-
  Contracts of package cycle's small functions: within, isPeriod, isArc, Valid, lengthOf.
-/
import Derived.Test.YtiolmcnngpaapaaBs
namespace Go.Proofs.Ytiolmcnngpaapaa
open Go.RowKit Cy

theorem within_any (n a b : Int) (w : World) : Calls Try.prog 57 #[.int .i64 n, .int .i64 a, .int .i64 b] w fun e w' => e = .returned (.bool (within n a b)) ∧ w = w' := by
  unfold within
  by_cases h1 : a ≤ n
  · go_enter Try.func57, Try.ntmps57
    go_wp2
    go_ret
    exact ⟨by simp [h1], rfl⟩
  · go_enter Try.func57, Try.ntmps57
    go_wp2
    go_ret
    exact ⟨by simp; omega, rfl⟩
theorem isPeriod_any (p : Int) (w : World) : Calls Try.prog 52 #[.int .i64 p] w fun e w' => e = .returned (.bool (isPer p)) ∧ w = w' := by
  unfold isPer
  go_enter Try.func52, Try.ntmps52
  go_wp2_with fail
  refine (within_any _ _ _ _).mono ?_; rintro _ w1 ⟨rfl, rfl⟩
  go_wp2_with fail
  go_ret
  exact ⟨rfl, rfl⟩
set_option maxRecDepth 100000 in
theorem isArc_any (n : Int) (hn : Fits (n - 1)) (a : Arc) (w : World) : Calls Try.prog 82 #[.int .i64 n, arcV a] w fun e w' => e = .returned (.bool (okArc n a)) ∧ Below w.heap.size w w' := by
  unfold okArc
  obtain ⟨f, t, g, k⟩ := a
  have HF := Lib.hid (within_any f 0 (n - 1))
  have HT := Lib.hid (within_any t 0 (n - 1))
  have HW := Lib.hid (within_any g (-1000000) 1000000)
  have HK := Lib.hid (within_any k (-2) 2)
  have HG := Lib.hid (below_new w (arcObj ⟨f, t, g, k⟩))
  simp only
  generalize within f 0 (n - 1) = V1 at *
  generalize within t 0 (n - 1) = V2 at *
  generalize within g (-1000000) 1000000 = V3 at *
  generalize within k (-2) 2 = V4 at *
  have e1 : IntKind.i64.wrap (n - 1) = n - 1 := IntWalk.i64_in _ (by omega)
  cases V1
  · go_enter Try.func82, Try.ntmps82
    go_wp2_with fail
    refine (HF.out _).mono ?_; rintro _ w1 ⟨rfl, rfl⟩
    go_wp2_with fail
    go_ret
    exact ⟨by simp, HG.out⟩
  · cases V2
    · go_enter Try.func82, Try.ntmps82
      go_wp2_with fail
      refine (HF.out _).mono ?_; rintro _ w1 ⟨rfl, rfl⟩
      go_wp2_with fail
      refine (HT.out _).mono ?_; rintro _ w1 ⟨rfl, rfl⟩
      go_wp2_with fail
      go_ret
      exact ⟨by simp, HG.out⟩
    · cases V3
      · go_enter Try.func82, Try.ntmps82
        go_wp2_with fail
        refine (HF.out _).mono ?_; rintro _ w1 ⟨rfl, rfl⟩
        go_wp2_with fail
        refine (HT.out _).mono ?_; rintro _ w1 ⟨rfl, rfl⟩
        go_wp2_with fail
        refine (HW.out _).mono ?_; rintro _ w1 ⟨rfl, rfl⟩
        go_wp2_with fail
        go_ret
        exact ⟨by simp, HG.out⟩
      · go_enter Try.func82, Try.ntmps82
        go_wp2_with fail
        refine (HF.out _).mono ?_; rintro _ w1 ⟨rfl, rfl⟩
        go_wp2_with fail
        refine (HT.out _).mono ?_; rintro _ w1 ⟨rfl, rfl⟩
        go_wp2_with fail
        refine (HW.out _).mono ?_; rintro _ w1 ⟨rfl, rfl⟩
        go_wp2_with fail
        refine (HK.out _).mono ?_; rintro _ w1 ⟨rfl, rfl⟩
        go_wp2_with fail
        go_ret
        exact ⟨by simp, HG.out⟩
set_option maxRecDepth 100000 in
theorem Valid1_any (n : Int) (hn : Fits (n - 1)) (a : Arc) (B : Nat) (w : World) (hB : w.cell? ⟨B, 0, none⟩ = some (.int .i64 n)) : Calls Try.prog 81 #[arcV a, .pointer (some ⟨B, 0, none⟩)] w fun e w' => e = .returned (.bool (!okArc n a)) ∧ Below w.heap.size w w' := by
  have HA := Lib.hid (isArc_any n hn a (w.alloc (arcObj a)))
  have HG := Lib.hid (below_new w (arcObj a))
  have hc := cell_below HG.out hB
  generalize okArc n a = V at *
  obtain ⟨f, t, g, k⟩ := a
  dsimp only [arcObj] at HA HG hc
  clear hB hn
  go_enter Try.func81, Try.ntmps81
  go_wp2_with fail
  refine HA.out.mono ?_; rintro _ w1 ⟨rfl, g1⟩
  have G1 := Lib.hid (below_step HG.out g1); clear g1
  go_wp2_with fail
  go_ret
  exact ⟨rfl, G1.out⟩
theorem lengthOf_any (p : Int) (a : Arc) (w : World) (h1 : -1000000 ≤ a.w ∧ a.w ≤ 1000000) (h2 : -2 ≤ a.k ∧ a.k ≤ 2) (hp : -1000000 ≤ p ∧ p ≤ 1000000) :
    Calls Try.prog 78 #[arcV a, .int .i64 p] w fun e w' => e = .returned (.int .i64 (len p a)) ∧ w' = w.alloc (arcObj a) := by
  have hl := len_bd h1 h2 hp
  have hm : -2000000 ≤ p * a.k ∧ p * a.k ≤ 2000000 := by
    have : a.k = -2 ∨ a.k = -1 ∨ a.k = 0 ∨ a.k = 1 ∨ a.k = 2 := by omega
    rcases this with e | e | e | e | e <;> rw [e] <;> omega
  obtain ⟨f, t, g, k⟩ := a
  unfold len at hl ⊢
  simp only at h1 h2 hm hl ⊢
  have HL := Lib.hid hl
  clear hl
  go_enter Try.func78, Try.ntmps78
  go_wp2_with fail
  go_ret
  exact ⟨rfl, rfl⟩
end Go.Proofs.Ytiolmcnngpaapaa

