/-
  Contract of Valid.
-/
import Derived.Test.YtiolmcnngpaapaaSm
import Derived.Shelf.Abstract
namespace Go.Proofs.Ytiolmcnngpaapaa
open Go.RowKit Go.Shelf Cy

/-- Below the heap of w nothing has changed, and the box B still holds n. -/
def BoxN (w : World) (B : Nat) (n : Int) (wr : World) : Prop := Below w.heap.size w wr ∧ wr.cell? ⟨B, 0, none⟩ = some (.int .i64 n)
def NoBad (n : Int) (l : List Arc) (k : Nat) : Prop := ∀ i (h : i < l.length), i < k → okArc n l[i] = true
def IdxPost (V : Bool) (w : World) (e : Ending) (w' : World) : Prop := ∃ r : Int, e = .returned (.int .i64 r) ∧ (0 ≤ r ↔ V = false) ∧ Below w.heap.size w w'
set_option maxRecDepth 100000 in
set_option maxHeartbeats 1000000 in
theorem index_any (n : Int) (hn : Fits (n - 1)) (l : List Arc) (a : Option Addr) (c B : Nat) (w : World) (h : ArcA w a c l) (hB : w.cell? ⟨B, 0, none⟩ = some (.int .i64 n)) :
    Calls Try.prog 93 #[.slice a l.length c, .func (.func 81) #[] #[.pointer (some ⟨B, 0, none⟩)]] w (IdxPost (l.all (okArc n)) w) := by
  have hl := h.len
  unfold maxLen at hl
  have HA := Lib.hid h; have HB := Lib.hid hB; have HN := Lib.hid hn
  have en := enters_of Try.func81 (by kernel_rfl) rfl
  clear h hB hn
  go_enter Try.func93, Try.ntmps93
  go_wp2_with fail
  go_loopw [8] (fun i wr => ∃ k : Nat, k ≤ l.length ∧ i = .int .i64 (k : Int) ∧ Hid (NoBad n l k) ∧ Hid (Below w.heap.size w wr)) (fun i _ => l.length - (intOf i).toNat)
  case atStart => exact ⟨0, Nat.zero_le _, rfl, Lib.hid (fun i _ hi => by omega), Lib.hid (Below.refl _ _)⟩
  case round =>
    obtain ⟨k, hk, rfl, HF, HG⟩ := hrel
    by_cases hlt : k < l.length
    · obtain ⟨b, off, rfl, hb, hc⟩ := (HA.out.below HG.out).at (by omega)
      obtain ⟨x0, x1, x2, x3⟩ := arc_cells (hc k hlt)
      have HV := Lib.hid (Valid1_any n HN.out l[k] B wr (cell_below HG.out HB.out))
      have HS := Lib.hid (show okArc n l[k] = true → NoBad n l (k + 1) from fun h i hi hik => by
        rcases Nat.lt_or_eq_of_le (Nat.le_of_lt_succ hik) with h1 | h1
        · exact HF.out i hi h1
        · subst h1; exact h)
      have HX := Lib.hid (show okArc n l[k] = false → l.all (okArc n) = false from fun h => by
        rw [List.all_eq_false]; exact ⟨l[k], List.getElem_mem hlt, by rw [h]; simp⟩)
      have k0 : (0 : Int) ≤ (k : Int) := by omega
      have k1 : (k : Int) < (l.length : Int) := by omega
      clear hc
      generalize okArc n l[k] = V at *
      generalize l[k] = x at *
      obtain ⟨f, t, g, q⟩ := x
      simp only at x0 x1 x2 x3
      go_wp2_with fail
      refine HV.out.mono ?_
      rintro _ w1 ⟨rfl, g1⟩
      have G1 := Lib.hid (below_step HG.out g1)
      clear g1
      cases V with
      | true =>
        have HR := Lib.hid (HS.out rfl)
        go_wp2_with fail
        go_roundw
        case rel => exact ⟨k + 1, hlt, by go_num, HR, G1⟩
        case measure => simp [intOf]; omega
      | false =>
        have HR := Lib.hid (HX.out rfl)
        go_wp2_with fail
        go_ret
        exact ⟨(k : Int), rfl, ⟨fun _ => HR.out, fun _ => k0⟩, G1.out⟩
    · have k1 : ¬ (k : Int) < (l.length : Int) := by omega
      have HR := Lib.hid (show l.all (okArc n) = true from List.all_eq_true.2 fun x hx => by
        obtain ⟨i, hi, rfl⟩ := List.getElem_of_mem hx
        exact HF.out i hi (by omega))
      go_wp2_with fail
      go_ret
      exact ⟨-1, rfl, ⟨fun h => absurd h (by omega), fun h => by rw [HR.out] at h; cases h⟩, HG.out⟩
set_option maxRecDepth 100000 in
theorem contains_any (n : Int) (hn : Fits (n - 1)) (l : List Arc) (a : Option Addr) (c B : Nat) (w : World) (h : ArcA w a c l) (hB : w.cell? ⟨B, 0, none⟩ = some (.int .i64 n)) :
    Calls Try.prog 80 #[.slice a l.length c, .func (.func 81) #[] #[.pointer (some ⟨B, 0, none⟩)]] w fun e w' => e = .returned (.bool (!l.all (okArc n))) ∧ Below w.heap.size w w' := by
  have HI := Lib.hid (index_any n hn l a c B w h hB)
  generalize l.length = m at *
  generalize l.all (okArc n) = V at *
  clear h hB hn
  go_enter Try.func80, Try.ntmps80
  go_wp2_with fail
  refine HI.out.mono ?_
  rintro _ w1 ⟨r, rfl, hr, g1⟩
  have HR := Lib.hid hr; have G1 := Lib.hid g1
  clear hr g1
  by_cases h0 : 0 ≤ r
  · go_wp2_with fail
    go_ret
    exact ⟨ret_bool (by rw [HR.out.1 h0]; rfl), G1.out⟩
  · have HV := Lib.hid (show V = true by cases V; exact absurd (HR.out.2 rfl) h0; rfl)
    go_wp2_with fail
    go_ret
    exact ⟨ret_bool (by rw [HV.out]; simp; omega), G1.out⟩
abbrev intObj (n : Int) : Obj := .cells #[.int .i64 n] 3
set_option maxRecDepth 100000 in
theorem Valid_any (n : Int) (hn : Fits n) (l : List Arc) (a : Option Addr) (c : Nat) (w : World) (h : ArcA w a c l) :
    Calls Try.prog 51 #[.int .i64 n, .slice a l.length c] w fun e w' => e = .returned (.bool (valid n l)) ∧ Below w.heap.size w w' := by
  have hl := h.len
  unfold maxLen at hl
  have HG := Lib.hid (below_new w (intObj n))
  have HN := Lib.hid (box_cell (heap_alloc_new w (intObj n)) 0 (.int .i64 n) rfl)
  have HW := Lib.hid (within_any n 1 32)
  have HE := Lib.hid (show valid n l = (within n 1 32 && decide (l.length ≤ 200) && l.all (okArc n)) from rfl)
  rw [HE.out]
  have HC := Lib.hid (show within n 1 32 = true → Calls Try.prog 80 #[.slice a l.length c, .func (.func 81) #[] #[.pointer (some ⟨w.heap.size, 0, none⟩)]] (w.alloc (intObj n)) fun e w' => e = .returned (.bool (!l.all (okArc n))) ∧ Below (w.alloc (intObj n)).heap.size (w.alloc (intObj n)) w' from
    fun hw => contains_any n (by have := Cy.within_iff.1 hw; unfold Fits; omega) l a c _ _ (h.below HG.out) HN.out)
  generalize within n 1 32 = U at *
  generalize l.all (okArc n) = V at *
  dsimp only [intObj] at HG HN HC
  clear h
  have c0 := HN.out
  cases U
  · go_enter Try.func51, Try.ntmps51
    go_wp2_with fail
    refine (HW.out _).mono ?_; rintro _ w1 ⟨rfl, rfl⟩
    go_wp2_with fail
    go_ret
    exact ⟨by simp, HG.out⟩
  · have HC2 := Lib.hid (HC.out rfl)
    clear HC
    generalize l.length = m at *
    by_cases hm : m ≤ 200
    · have d1 : ¬ ((200 : Int) < (m : Int)) := by omega
      go_enter Try.func51, Try.ntmps51
      go_wp2_with fail
      refine (HW.out _).mono ?_; rintro _ w1 ⟨rfl, rfl⟩
      go_wp2_with fail
      refine HC2.out.mono ?_; rintro _ w1 ⟨rfl, g1⟩
      have G1 := Lib.hid (below_step HG.out g1); clear g1
      go_wp2_with fail
      go_ret
      exact ⟨by simp [hm], G1.out⟩
    · have d1 : (200 : Int) < (m : Int) := by omega
      go_enter Try.func51, Try.ntmps51
      go_wp2_with fail
      refine (HW.out _).mono ?_; rintro _ w1 ⟨rfl, rfl⟩
      go_wp2_with fail
      go_ret
      exact ⟨by simp; omega, HG.out⟩
end Go.Proofs.Ytiolmcnngpaapaa

