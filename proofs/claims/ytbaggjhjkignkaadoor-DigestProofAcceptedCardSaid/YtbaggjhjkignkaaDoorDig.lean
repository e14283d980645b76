/-
  The contract of the package's areDigests.
-/
import Derived.Test.YtbaggjhjkignkaaDoorHelp
namespace Go.Proofs.YtbaggjhjkignkaaDoor
open Go.RowKit Tree

/-- Whether all strings have 32 bytes. -/
def digsB (L : List ByteArray) : Bool := L.all fun s => s.size == 32
theorem digsB_true {L : List ByteArray} : digsB L = true ↔ ∀ x ∈ L, x.size = 32 := by
  unfold digsB; rw [List.all_eq_true]; simp

theorem notDigest_any (s : ByteArray) (w : World) :
    Calls Tryd.prog 52 #[.string s] w fun e w' => e = .returned (.bool (!(s.size == 32))) ∧ w = w' := by
  by_cases h : s.size = 32
  · have h1 : ((s.size : Int) == 32) = true := by simp [h]
    have h2 : (s.size == 32) = true := by simp [h]
    have HB := Lib.hid h2
    have h3 : ((s.size : Int) != 32) = false := by simp [h]
    clear h h2
    go_enter Tryd.func52, Tryd.ntmps52
    go_wp2
    go_ret
    rw [HB.out]
    exact ⟨rfl, rfl⟩
  · have h1 : ((s.size : Int) == 32) = false := by simp; omega
    have h2 : (s.size == 32) = false := by simp [h]
    have HB := Lib.hid h2
    have h3 : ((s.size : Int) != 32) = true := by simp; omega
    clear h h2
    go_enter Tryd.func52, Tryd.ntmps52
    go_wp2
    go_ret
    rw [HB.out]
    exact ⟨rfl, rfl⟩

/-- Where the first string lies that is no digest; -1 where there is none. -/
def firstNot (L : List ByteArray) : Int := if digsB L then -1 else ((L.findIdx fun s => !(s.size == 32) : Nat) : Int)

set_option maxRecDepth 100000 in
set_option maxHeartbeats 1000000 in
theorem index_any (a : Option Addr) (c : Nat) (L : List ByteArray) (w : World) (hA : StrA w a c L) :
    Calls Tryd.prog 58 #[.slice a L.length c, .func (.func 52) #[] #[]] w fun e w' => e = .returned (.int .i64 (firstNot L)) ∧ w = w' := by
  have hlc := hA.1
  have hcm := hA.2.1
  unfold maxLen at hcm
  have HA := Lib.hid hA
  clear hA
  go_enter Tryd.func58, Tryd.ntmps58
  go_wp2_with fail
  go_loop [8] (fun i => ∃ k : Nat, k ≤ L.length ∧ i = .int .i64 k ∧ ∀ j (h : j < L.length), j < k → (L[j].size == 32) = true) (fun i => L.length - (intOf i).toNat)
  case atStart => exact ⟨0, by omega, rfl, fun j h h0 => by omega⟩
  case round =>
    obtain ⟨k, hk, rfl, hall⟩ := hrel
    have HALL := Lib.hid hall
    clear hall
    by_cases hkL : k < L.length
    · obtain ⟨b, off, rfl, l1, l2⟩ := HA.out.2.2 k hkL
      have hki : (k : Int) < (L.length : Int) := by omega
      have HX := Lib.hid (show ∃ x, x = L[k] from ⟨_, rfl⟩)
      obtain ⟨x, hx⟩ := HX.out
      rw [← hx] at l2
      have HXX := Lib.hid hx
      clear HX hx
      by_cases hd : (x.size == 32) = true
      · have HN := Lib.hid (notDigest_any x w)
        rw [hd] at HN
        have HD := Lib.hid hd
        clear hd
        go_wp2_with fail
        refine HN.out.mono ?_
        rintro e w' ⟨rfl, rfl⟩
        go_wp2_with fail
        go_round
        case rel => exact ⟨k + 1, by omega, by go_num, fun j h hj => by
          by_cases e : j = k
          · subst e; rw [← HXX.out]; exact HD.out
          · exact HALL.out j h (by omega)⟩
        case measure => simp [intOf]; omega
      · have hd' : (x.size == 32) = false := by simpa using hd
        have HN := Lib.hid (notDigest_any x w)
        rw [hd'] at HN
        have hfn : firstNot L = (k : Int) := by
          have h1 : digsB L = false := by
            unfold digsB
            rw [List.all_eq_false]
            exact ⟨x, by rw [HXX.out]; exact List.getElem_mem hkL, hd⟩
          unfold firstNot
          rw [h1]
          simp only [Bool.false_eq_true, if_false]
          congr 1
          refine (List.findIdx_eq hkL).2 ⟨by rw [← HXX.out, hd']; rfl, fun j hj => ?_⟩
          rw [HALL.out j (by omega) hj]; rfl
        have HF := Lib.hid hfn
        clear hfn hd hd'
        go_wp2_with fail
        refine HN.out.mono ?_
        rintro e w' ⟨rfl, rfl⟩
        go_wp2_with fail
        go_ret
        rw [HF.out]
        exact ⟨rfl, rfl⟩
    · have hfn : firstNot L = -1 := by
        unfold firstNot
        rw [if_pos]
        unfold digsB
        rw [List.all_eq_true]
        intro y hy
        obtain ⟨j, hj, rfl⟩ := List.getElem_of_mem hy
        exact HALL.out j hj (by omega)
      have HF := Lib.hid hfn
      clear hfn
      go_wp2_with fail
      go_ret
      rw [HF.out]
      exact ⟨rfl, rfl⟩

theorem firstNot_bool (L : List ByteArray) : decide (0 ≤ firstNot L) = !digsB L := by
  unfold firstNot
  cases h : digsB L <;> simp

set_option maxRecDepth 100000 in
set_option maxHeartbeats 400000 in
theorem digs_any (a : Option Addr) (c : Nat) (L : List ByteArray) (w : World) (hA : StrA w a c L) :
    Calls Tryd.prog 38 #[.slice a L.length c] w fun e w' => e = .returned (.bool (digsB L)) ∧ w = w' := by
  have hc : Calls Tryd.prog 51 #[.slice a L.length c, .func (.func 52) #[] #[]] w fun e w' => e = .returned (.bool (!digsB L)) ∧ w = w' := by
    have HI := Lib.hid (index_any a c L w hA)
    have HF := Lib.hid (firstNot_bool L)
    generalize firstNot L = f at *
    go_enter Tryd.func51, Tryd.ntmps51
    go_wp2_with fail
    refine HI.out.mono ?_
    rintro e w' ⟨rfl, rfl⟩
    go_wp2_with fail
    go_ret
    rw [← HF.out]
    exact ⟨rfl, rfl⟩
  have HC := Lib.hid hc
  have HB := Lib.hid (Bool.not_not (digsB L))
  clear hc
  generalize digsB L = d at *
  go_enter Tryd.func38, Tryd.ntmps38
  go_wp2_with fail
  refine HC.out.mono ?_
  rintro e w' ⟨rfl, rfl⟩
  go_wp2_with fail
  go_ret
  exact ⟨by simp, rfl⟩
end Go.Proofs.YtbaggjhjkignkaaDoor

