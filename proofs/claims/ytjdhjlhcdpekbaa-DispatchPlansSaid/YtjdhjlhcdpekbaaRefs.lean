/-
  The statements' helpers: the reference's Valid and Same.
-/
import Derived.Test.YtjdhjlhcdpekbaaFirstA
namespace Go.Proofs.Ytjdhjlhcdpekbaa
open Go.RowKit Go.Shelf

set_option maxRecDepth 100000 in
theorem refValid_any (b : Kal.Bk) (w : World) : Calls Try.prog 45 #[bkV b] w fun e w' => e = .returned (.bool (Kal.okB b)) ∧ Below w.heap.size w w' := by
  have HO : Hid (Kal.okB b = (decide (0 ≤ b.tool) && decide (b.tool < 60) && decide (0 ≤ b.s) && decide (b.s < b.e) && decide (b.e ≤ 1000000) && decide (1 ≤ b.o) && decide (b.o ≤ 1000000))) := Lib.hid rfl
  rw [HO.out]
  obtain ⟨t, s, e, o⟩ := b
  simp only
  by_cases h0 : 0 ≤ t
  · by_cases h00 : t < 60
    · by_cases h1 : 0 ≤ s
      · by_cases h2 : s < e
        · by_cases h3 : e ≤ 1000000
          · by_cases h4 : 1 ≤ o
            · go_enter Try.func45, Try.ntmps45
              go_wp2_with fail
              go_ret
              exact ⟨by simp, below_new _ _⟩
            · go_enter Try.func45, Try.ntmps45
              go_wp2_with fail
              go_ret
              exact ⟨by simp; intros; omega, below_new _ _⟩
          · go_enter Try.func45, Try.ntmps45
            go_wp2_with fail
            go_ret
            exact ⟨by simp; intros; omega, below_new _ _⟩
        · go_enter Try.func45, Try.ntmps45
          go_wp2_with fail
          go_ret
          exact ⟨by simp; intros; omega, below_new _ _⟩
      · go_enter Try.func45, Try.ntmps45
        go_wp2_with fail
        go_ret
        exact ⟨by simp; intros; omega, below_new _ _⟩
    · go_enter Try.func45, Try.ntmps45
      go_wp2_with fail
      go_ret
      exact ⟨by simp; intros; omega, below_new _ _⟩
  · go_enter Try.func45, Try.ntmps45
    go_wp2_with fail
    go_ret
    exact ⟨by simp; intros; omega, below_new _ _⟩

end Go.Proofs.Ytjdhjlhcdpekbaa

