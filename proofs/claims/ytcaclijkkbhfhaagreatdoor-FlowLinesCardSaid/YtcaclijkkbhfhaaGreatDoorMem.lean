/-
  Lists of integers, steps and windows in memory: what a slice reads as; contracts of ascending and validRework.
-/
import Derived.Test.YtcaclijkkbhfhaaGreatDoorNum
namespace Go.Proofs.YtcaclijkkbhfhaaGreatDoor
open Go.RowKit

/-- A slice of integers that reads as L. -/
def IntA (w : World) (a : Option Addr) (c : Nat) (L : List Int) : Prop :=
  L.length ≤ c ∧ c ≤ maxLen ∧ ∀ i (h : i < L.length), ∃ b off : Nat, a = some ⟨b, off, none⟩ ∧ b < w.heap.size ∧ w.cell? ⟨b, off + i, none⟩ = some (.int .i64 L[i])
theorem IntA.below {w w' : World} {a : Option Addr} {c : Nat} {L : List Int} (h : IntA w a c L) (hb : Below w.heap.size w w') : IntA w' a c L := by
  refine ⟨h.1, h.2.1, fun i hi => ?_⟩
  obtain ⟨b, off, rfl, h1, h2⟩ := h.2.2 i hi
  exact ⟨b, off, rfl, Nat.lt_of_lt_of_le h1 hb.size, (hb.cell (p := ⟨b, off + i, none⟩) h1).trans h2⟩
theorem IntA.nil (w : World) : IntA w none 0 [] := ⟨Nat.le_refl _, by decide, fun i hi => by cases hi⟩
theorem IntA.at {w : World} {a : Option Addr} {c : Nat} {L : List Int} (h : IntA w a c L) (h0 : 0 < L.length) : ∃ b off : Nat, a = some ⟨b, off, none⟩ ∧ b < w.heap.size ∧ ∀ i (h : i < L.length), w.cell? ⟨b, off + i, none⟩ = some (.int .i64 L[i]) := by
  obtain ⟨b, off, rfl, h1, -⟩ := h.2.2 0 h0
  refine ⟨b, off, rfl, h1, fun i hi => ?_⟩
  obtain ⟨b', off', e, _, h2⟩ := h.2.2 i hi
  injection e with e; injection e with e1 e2; subst e1; subst e2; exact h2

theorem asc_drop (c last : Int) (L : List Int) (i : Nat) (h : i < L.length) : Fl.asc c last (L.drop i) = (!(decide (L[i] ≤ last) || decide (c ≤ L[i])) && Fl.asc c L[i] (L.drop (i + 1))) := by
  rw [List.drop_eq_getElem_cons h, Fl.asc]

set_option maxHeartbeats 1000000 in
theorem ascending_any (L : List Int) (count : Int) (a : Option Addr) (c : Nat) (w : World) (h : IntA w a c L) :
    Calls Tryz.prog 68 #[.slice a L.length c, .int .i64 count] w fun e w' => e = .returned (.bool (Fl.asc count (-1) L)) ∧ w = w' := by
  have hlen : L.length ≤ maxLen := Nat.le_trans h.1 h.2.1
  unfold maxLen at hlen
  have HA := Lib.hid h; clear h
  go_enter Tryz.func68, Tryz.ntmps68
  go_wp2_with fail
  go_loop [5, 10] (fun l i => ∃ (k : Nat) (last : Int), k ≤ L.length ∧ l = .int .i64 last ∧ i = .int .i64 (k : Int) ∧ Hid (Fl.asc count last (L.drop k) = Fl.asc count (-1) L)) (fun _ i => L.length - (intOf i).toNat)
  case atStart => exact ⟨0, -1, Nat.zero_le _, rfl, rfl, Lib.hid rfl⟩
  case round =>
    obtain ⟨k, last, hk, rfl, rfl, hh⟩ := hrel
    by_cases hlt : k < L.length
    · obtain ⟨b, off, rfl, hb, hc⟩ := HA.out.at (by omega)
      have c0 := hc k hlt
      have HE := Lib.hid (asc_drop count last L k hlt)
      clear hc
      generalize L[k] = x at *
      by_cases h1 : x ≤ last
      · have hf : Fl.asc count (-1) L = false := by rw [← hh.out, HE.out]; simp [h1]
        have HF := Lib.hid hf; clear hf
        go_wp2_with fail
        go_ret
        exact ⟨ret_bool HF.out.symm, rfl⟩
      · by_cases h2 : count ≤ x
        · have hf : Fl.asc count (-1) L = false := by rw [← hh.out, HE.out]; simp [h2]
          have HF := Lib.hid hf; clear hf
          go_wp2_with fail
          go_ret
          exact ⟨ret_bool HF.out.symm, rfl⟩
        · have hn : Fl.asc count x (L.drop (k + 1)) = Fl.asc count (-1) L := by rw [← hh.out, HE.out]; simp [h1, h2]
          have HN := Lib.hid hn; clear hn
          go_wp2_with fail
          go_round
          case rel => exact ⟨k + 1, x, by omega, rfl, by go_num, HN⟩
          case measure => simp [intOf]; omega
    · have hf : Fl.asc count (-1) L = true := by
        rw [← hh.out, List.drop_of_length_le (by omega)]; rfl
      have HF := Lib.hid hf; clear hf
      go_wp2_with fail
      go_ret
      exact ⟨ret_bool HF.out.symm, rfl⟩
end Go.Proofs.YtcaclijkkbhfhaaGreatDoor
