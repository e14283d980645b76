/-
  The table of the kinds of lines, and which kind a word is: contracts of kinds, the closure of readLine, and IndexFunc at them.
-/
import Derived.Test.YtcaclijkkbhfhaaGreatDoorRWin
namespace Go.Proofs.YtcaclijkkbhfhaaGreatDoor
open Go.RowKit Go.Shelf

/-- The table's cells, at block T; the lists of words behind which a line may be lie in the three blocks ahead of it. -/
abbrev kindCells (T : Nat) : Array Value := #[.string (bs Fl.wMove), .slice (some ⟨T, 0, none⟩) 1 1, .func (.func 91) #[] #[], .string (bs Fl.wStep), .slice (some ⟨T + 1, 0, none⟩) 2 2, .func (.func 92) #[] #[], .string (bs Fl.wWindow), .slice (some ⟨T + 2, 0, none⟩) 2 2, .func (.func 93) #[] #[]]
abbrev kindsWorld (w : World) : World := (((w.alloc (.cells #[.string (bs [])] 9)).alloc (.cells #[.string (bs Fl.wMove), .string (bs Fl.wStep)] 9)).alloc (.cells #[.string (bs Fl.wStep), .string (bs Fl.wWindow)] 9)).alloc (.cells (kindCells w.heap.size) 117)
/-- The four blocks. -/
structure KindsAt (T : Nat) (w : World) : Prop where
  b0 : w.heap[T]? = some (.cells #[.string (bs [])] 9)
  b1 : w.heap[T + 1]? = some (.cells #[.string (bs Fl.wMove), .string (bs Fl.wStep)] 9)
  b2 : w.heap[T + 2]? = some (.cells #[.string (bs Fl.wStep), .string (bs Fl.wWindow)] 9)
  tb : w.heap[T + 3]? = some (.cells (kindCells T) 117)
theorem KindsAt.below {T : Nat} {w w' : World} (h : KindsAt T w) (hb : Below w.heap.size w w') : KindsAt T w' :=
  ⟨(hb.block _ (lt_of_block h.b0)).trans h.b0, (hb.block _ (lt_of_block h.b1)).trans h.b1, (hb.block _ (lt_of_block h.b2)).trans h.b2, (hb.block _ (lt_of_block h.tb)).trans h.tb⟩
theorem heap_alloc_old (w : World) (o : Obj) (k : Nat) (u : Obj) (h : w.heap[k]? = some u) : (w.alloc o).heap[k]? = some u := (Below.heap_alloc w o k (lt_of_block h)).trans h
theorem KindsAt.new (w : World) : KindsAt w.heap.size (kindsWorld w) := by
  refine ⟨?_, ?_, ?_, ?_⟩
  · exact heap_alloc_old _ _ _ _ (heap_alloc_old _ _ _ _ (heap_alloc_old _ _ _ _ (heap_alloc_new _ _)))
  · have := heap_alloc_new (w.alloc (.cells #[.string (bs [])] 9)) (.cells #[.string (bs Fl.wMove), .string (bs Fl.wStep)] 9)
    rw [show (w.alloc (.cells #[.string (bs [])] 9)).heap.size = w.heap.size + 1 by simp] at this
    exact heap_alloc_old _ _ _ _ (heap_alloc_old _ _ _ _ this)
  · have := heap_alloc_new ((w.alloc (.cells #[.string (bs [])] 9)).alloc (.cells #[.string (bs Fl.wMove), .string (bs Fl.wStep)] 9)) (.cells #[.string (bs Fl.wStep), .string (bs Fl.wWindow)] 9)
    rw [show ((w.alloc (.cells #[.string (bs [])] 9)).alloc (.cells #[.string (bs Fl.wMove), .string (bs Fl.wStep)] 9)).heap.size = w.heap.size + 2 by simp] at this
    exact heap_alloc_old _ _ _ _ this
  · have := heap_alloc_new (((w.alloc (.cells #[.string (bs [])] 9)).alloc (.cells #[.string (bs Fl.wMove), .string (bs Fl.wStep)] 9)).alloc (.cells #[.string (bs Fl.wStep), .string (bs Fl.wWindow)] 9)) (.cells (kindCells w.heap.size) 117)
    rw [show (((w.alloc (.cells #[.string (bs [])] 9)).alloc (.cells #[.string (bs Fl.wMove), .string (bs Fl.wStep)] 9)).alloc (.cells #[.string (bs Fl.wStep), .string (bs Fl.wWindow)] 9)).heap.size = w.heap.size + 3 by simp] at this
    exact this
theorem kinds_below (w : World) : Below w.heap.size w (kindsWorld w) :=
  ((((Below.refl _ _).alloc (Nat.le_refl _) _).alloc (by simp) _).alloc (by simp; omega) _).alloc (by simp; omega) _

theorem kinds_any (w : World) : Calls Tryz.prog 80 #[] w fun e w' => e = .returned (.slice (some ⟨w.heap.size + 3, 0, none⟩) 3 3) ∧ w' = kindsWorld w := by
  go_enter Tryz.func80, Tryz.ntmps80
  go_wp2_with fail
  go_ret
  exact ⟨rfl, rfl⟩

theorem readLine1_any (x : List UInt8) (bv : Value) (fv : Value) (V : Nat) (z : List UInt8) (w : World) (hV : w.cell? ⟨V, 0, none⟩ = some (.string (bs z))) :
    Calls Tryz.prog 82 #[.agg #[.string (bs x), bv, fv], .pointer (some ⟨V, 0, none⟩)] w fun e w' => e = .returned (.bool (decide (x = z))) ∧ Below w.heap.size w w' := by
  have hV' : (w.alloc (.cells #[.string (bs x), bv, fv] 117)).cell? ⟨V, 0, none⟩ = some (.string (bs z)) := cell_below (below_new _ _) hV
  have E : Hid ((x == z) = decide (x = z)) := Lib.hid (by rw [Bool.eq_iff_iff]; simp)
  go_enter Tryz.func82, Tryz.ntmps82
  go_wp2_with fail
  go_ret
  exact ⟨ret_bool E.out, below_new _ _⟩

/-- Which kind a word is. -/
def kindAt (z : List UInt8) : Int := if Fl.wMove = z then 0 else if Fl.wStep = z then 1 else if Fl.wWindow = z then 2 else -1
set_option maxRecDepth 100000 in
set_option maxHeartbeats 2000000 in
theorem indexFunc_any (T V : Nat) (z : List UInt8) (w : World) (hT : KindsAt T w) (hV : w.cell? ⟨V, 0, none⟩ = some (.string (bs z))) :
    Calls Tryz.prog 81 #[.slice (some ⟨T + 3, 0, none⟩) 3 3, .func (.func 82) #[] #[.pointer (some ⟨V, 0, none⟩)]] w fun e w' => e = .returned (.int .i64 (kindAt z)) ∧ Below w.heap.size w w' := by
  have HT := Lib.hid hT; have HV := Lib.hid hV
  clear hT hV
  go_enter Tryz.func81, Tryz.ntmps81
  go_wp2_with fail
  go_loopw [8] (fun i wr => ∃ k : Nat, k ≤ 3 ∧ i = .int .i64 (k : Int) ∧ Below w.heap.size w wr ∧ Hid ((1 ≤ k → Fl.wMove ≠ z) ∧ (2 ≤ k → Fl.wStep ≠ z) ∧ (3 ≤ k → Fl.wWindow ≠ z))) (fun i _ => 3 - (intOf i).toNat)
  case atStart => exact ⟨0, by omega, rfl, Below.refl _ _, Lib.hid ⟨by omega, by omega, by omega⟩⟩
  case round =>
    obtain ⟨k, hk, rfl, hb, hh⟩ := hrel
    have HB := Lib.hid hb
    have TB := HT.out.below hb
    have VB := cell_below hb HV.out
    have c0 := box_cell TB.tb 0 _ rfl; have c1 := box_cell TB.tb 1 _ rfl; have c2 := box_cell TB.tb 2 _ rfl
    have c3 := box_cell TB.tb 3 _ rfl; have c4 := box_cell TB.tb 4 _ rfl; have c5 := box_cell TB.tb 5 _ rfl
    have c6 := box_cell TB.tb 6 _ rfl; have c7 := box_cell TB.tb 7 _ rfl; have c8 := box_cell TB.tb 8 _ rfl
    have HC := Lib.hid (fun x bv fv => readLine1_any x bv fv V z wr VB)
    clear hb TB VB
    rcases (show k = 0 ∨ k = 1 ∨ k = 2 ∨ k = 3 by omega) with rfl | rfl | rfl | rfl
    · go_wp2_with fail
      refine (HC.out _ _ _).mono ?_; rintro e w1 ⟨rfl, g1⟩
      have G1 := Lib.hid (below_step HB.out g1); clear g1
      by_cases hz : Fl.wMove = z
      · have hz' : decide (Fl.wMove = z) = true := decide_eq_true hz
        have HK := Lib.hid (show kindAt z = 0 by unfold kindAt; rw [if_pos hz])
        clear hz
        rw [hz']
        go_wp2_with fail
        go_ret
        exact ⟨ret_int HK.out.symm, G1.out⟩
      · have hz' : decide (Fl.wMove = z) = false := decide_eq_false hz
        have HZ := Lib.hid hz; clear hz
        rw [hz']
        go_wp2_with fail
        go_roundw
        case rel => exact ⟨1, by omega, rfl, G1.out, Lib.hid ⟨fun _ => HZ.out, by omega, by omega⟩⟩
        case measure => simp [intOf]
    · go_wp2_with fail
      refine (HC.out _ _ _).mono ?_; rintro e w1 ⟨rfl, g1⟩
      have G1 := Lib.hid (below_step HB.out g1); clear g1
      by_cases hz : Fl.wStep = z
      · have hz' : decide (Fl.wStep = z) = true := decide_eq_true hz
        have HK := Lib.hid (show kindAt z = 1 by unfold kindAt; rw [if_neg (hh.out.1 (by omega)), if_pos hz])
        clear hz
        rw [hz']
        go_wp2_with fail
        go_ret
        exact ⟨ret_int HK.out.symm, G1.out⟩
      · have hz' : decide (Fl.wStep = z) = false := decide_eq_false hz
        have HZ := Lib.hid hz; clear hz
        rw [hz']
        go_wp2_with fail
        go_roundw
        case rel => exact ⟨2, by omega, rfl, G1.out, Lib.hid ⟨fun _ => hh.out.1 (by omega), fun _ => HZ.out, by omega⟩⟩
        case measure => simp [intOf]
    · go_wp2_with fail
      refine (HC.out _ _ _).mono ?_; rintro e w1 ⟨rfl, g1⟩
      have G1 := Lib.hid (below_step HB.out g1); clear g1
      by_cases hz : Fl.wWindow = z
      · have hz' : decide (Fl.wWindow = z) = true := decide_eq_true hz
        have HK := Lib.hid (show kindAt z = 2 by unfold kindAt; rw [if_neg (hh.out.1 (by omega)), if_neg (hh.out.2.1 (by omega)), if_pos hz])
        clear hz
        rw [hz']
        go_wp2_with fail
        go_ret
        exact ⟨ret_int HK.out.symm, G1.out⟩
      · have hz' : decide (Fl.wWindow = z) = false := decide_eq_false hz
        have HZ := Lib.hid hz; clear hz
        rw [hz']
        go_wp2_with fail
        go_roundw
        case rel => exact ⟨3, by omega, rfl, G1.out, Lib.hid ⟨fun _ => hh.out.1 (by omega), fun _ => hh.out.2.1 (by omega), fun _ => HZ.out⟩⟩
        case measure => simp [intOf]
    · have HK := Lib.hid (show kindAt z = -1 by unfold kindAt; rw [if_neg (hh.out.1 (by omega)), if_neg (hh.out.2.1 (by omega)), if_neg (hh.out.2.2 (by omega))])
      go_wp2_with fail
      go_ret
      exact ⟨ret_int HK.out.symm, HB.out⟩
end Go.Proofs.YtcaclijkkbhfhaaGreatDoor
