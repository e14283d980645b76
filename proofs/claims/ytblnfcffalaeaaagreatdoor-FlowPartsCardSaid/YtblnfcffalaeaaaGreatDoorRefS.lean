/-
  The reference's list: numbers with commas. Condition: at most 1000 numbers from 0 to 1000000.
-/
import Derived.Test.YtblnfcffalaeaaaGreatDoorRefD
import Derived.Test.YtblnfcffalaeaaaGreatDoorPrn
import Derived.Deep.LoopGhost
import Derived.Deep.DeepCutAuto
namespace Go.Proofs.YtblnfcffalaeaaaGreatDoor
open Go.RowKit Go.Shelf

theorem join_nums_len {L : List Int} (h : ∀ x ∈ L, 0 ≤ x ∧ x ≤ 1000000) (k : Nat) : (Lib.join ((L.map Lib.itoa).take k) [44]).length ≤ k * 8 := by
  have h1 := Fl.join_len_le (c := 44) (m := 7) (ws := (L.map Lib.itoa).take k) (fun w hw => by
    obtain ⟨x, hx, rfl⟩ := List.mem_map.1 (List.mem_of_mem_take hw)
    exact Fl.itoa_len10 (h x hx).1 (h x hx).2)
  rw [List.length_take] at h1
  exact Nat.le_trans h1 (Nat.mul_le_mul_right _ (Nat.min_le_left _ _))
theorem itoa_ne (n : Int) : Lib.itoa n ≠ [] := by
  intro h
  have := congrArg List.length h
  unfold Lib.itoa at this
  split at this
  · simp at this
  · have h2 := Lib.decDigits_length n.natAbs
    rw [show n.toNat = n.natAbs by omega] at this
    rw [this] at h2
    have := Lib.nDigits_pos n.natAbs
    simp at h2; omega
theorem join_nums_ne {L : List Int} (hL : L ≠ []) : Lib.join (L.map Lib.itoa) [44] ≠ [] := by
  cases L with
  | nil => exact absurd rfl hL
  | cons x L =>
    rw [List.map_cons, Lib.join_cons]
    intro h
    exact itoa_ne x (List.append_eq_nil_iff.1 h).1

set_option maxRecDepth 100000 in
set_option maxHeartbeats 2000000 in
theorem refList_any (L : List Int) (a : Option Addr) (c : Nat) (w : World) (h : IntA w a c L) (hb : ∀ x ∈ L, 0 ≤ x ∧ x ≤ 1000000) (hl : L.length ≤ 1000) :
    Calls Tryz.prog 48 #[.slice a L.length c] w fun e w' => e = .returned (.string (bs (Fl.nums L))) ∧ Below w.heap.size w w' := by
  have HA := Lib.hid h; have HBD := Lib.hid hb
  have hml : (L.map Lib.itoa).length = L.length := by simp
  clear h hb
  go_enter Tryz.func48, Tryz.ntmps48
  go_wp2_with fail
  go_loopg [3, 4] (L.length) (fun g s i wr => ∃ k : Nat, k ≤ L.length ∧ g = L.length - k ∧ s = .string (bs (Lib.join ((L.map Lib.itoa).take k) [44])) ∧ i = .int .i64 (k : Int) ∧ Hid (Below w.heap.size w wr))
  case atStart => exact ⟨0, by omega, by omega, rfl, rfl, Lib.hid (Below.refl _ _)⟩
  case round =>
    obtain ⟨k, hk, rfl, rfl, rfl, HW⟩ := hrel
    by_cases hlt : k < L.length
    · obtain ⟨b, off, rfl, hbl, hc⟩ := (HA.out.below HW.out).at (by omega)
      have c0 := hc k hlt
      have hx := HBD.out L[k] (List.getElem_mem hlt)
      have hsu := join_take_succ (L.map Lib.itoa) [44] k (by simpa using hlt)
      rw [List.getElem_map] at hsu
      have hjl := join_nums_len HBD.out k
      have hil := Fl.itoa_len10 hx.1 hx.2
      have HDg := Lib.hid (fun w => refDigits_any L[k] w hx.1 hx.2)
      clear hc hx
      generalize L[k] = x at *
      have e9 : IntKind.i64.wrap ((k : Int) + 1) = (k : Int) + 1 := IntWalk.i64_in _ (by omega)
      by_cases h0 : k = 0
      · rw [if_pos h0] at hsu
        have hk0 : ¬ 0 < k := by omega
        have hz : Lib.join ((L.map Lib.itoa).take k) [44] = [] := by rw [h0]; rfl
        have a2 := add_bs (Lib.join ((L.map Lib.itoa).take k) [44]) (Lib.itoa x) (by omega)
        rw [show Lib.join ((L.map Lib.itoa).take k) [44] ++ Lib.itoa x = Lib.join ((L.map Lib.itoa).take (k + 1)) [44] by rw [hsu, hz]; rfl] at a2
        clear hsu hjl hil hz h0
        generalize Lib.join ((L.map Lib.itoa).take k) [44] = s0 at *
        generalize hs2 : Lib.join ((L.map Lib.itoa).take (k + 1)) [44] = s2 at *
        have HS2 := Lib.hid hs2; clear hs2
        go_wp2_with fail
        refine (HDg.out _).mono ?_; rintro e w1 ⟨rfl, g1⟩
        have G1 := Lib.hid (below_step HW.out g1)
        clear g1
        go_wp2_with fail
        go_roundg (L.length - (k + 1))
        case rel => exact ⟨k + 1, hlt, rfl, by rw [HS2.out], by go_num, G1⟩
        case measure => omega
      · rw [if_neg h0] at hsu
        have hk0 : 0 < k := by omega
        have a1 := add_bs (Lib.join ((L.map Lib.itoa).take k) [44]) [44] (by simp; omega)
        have a2 := add_bs (Lib.join ((L.map Lib.itoa).take k) [44] ++ [44]) (Lib.itoa x) (by simp; omega)
        rw [← hsu] at a2
        clear hsu hjl hil
        generalize Lib.join ((L.map Lib.itoa).take k) [44] = s0 at *
        generalize s0 ++ [44] = s1 at *
        generalize hs2 : Lib.join ((L.map Lib.itoa).take (k + 1)) [44] = s2 at *
        have HS2 := Lib.hid hs2; clear hs2
        go_wp2_with fail
        refine (HDg.out _).mono ?_; rintro e w1 ⟨rfl, g1⟩
        have G1 := Lib.hid (below_step HW.out g1)
        clear g1
        go_wp2_with fail
        go_roundg (L.length - (k + 1))
        case rel => exact ⟨k + 1, hlt, rfl, by rw [HS2.out], by go_num, G1⟩
        case measure => omega
    · obtain rfl : k = L.length := by omega
      have htk : (L.map Lib.itoa).take L.length = L.map Lib.itoa := by rw [← hml, List.take_length]
      rw [htk]
      by_cases hL : L = []
      · have HN : Hid (Fl.nums L = [45]) := Lib.hid (by unfold Fl.nums; rw [if_pos hL])
        have hj : Lib.join (L.map Lib.itoa) [44] = [] := by rw [hL]; rfl
        rw [hj]
        clear htk hj hL
        go_wp2_with fail
        go_ret
        exact ⟨by rw [HN.out]; rfl, HW.out⟩
      · have HN : Hid (Fl.nums L = Lib.join (L.map Lib.itoa) [44]) := Lib.hid (by unfold Fl.nums; rw [if_neg hL])
        have hj := join_nums_ne hL
        generalize Lib.join (L.map Lib.itoa) [44] = s0 at *
        have hj1 : s0.isEmpty = false := by simpa using hj
        clear htk hL hj
        go_wp2_with fail
        go_ret
        exact ⟨by rw [HN.out]; rfl, HW.out⟩
end Go.Proofs.YtblnfcffalaeaaaGreatDoor
