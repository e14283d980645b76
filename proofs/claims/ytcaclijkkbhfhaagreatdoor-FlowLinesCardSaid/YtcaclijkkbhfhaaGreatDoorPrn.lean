/-
  Contracts of span, lineOf, joined at integers, numberList.
-/
import Derived.Test.YtcaclijkkbhfhaaGreatDoorParse
import Derived.Test.YtcaclijkkbhfhaaGreatDoorFlD
import Derived.Laws.Concat
import Derived.Lib.UnsafeStr
namespace Go.Proofs.YtcaclijkkbhfhaaGreatDoor
open Go.RowKit Go.Shelf

theorem bs_append (x y : List UInt8) : bs x ++ bs y = bs (x ++ y) := by apply ByteArray.ext; simp
theorem add_bs (x y : List UInt8) (h : x.length + y.length ≤ 1000000) : ∀ W, (Op.stringOp .add (bs x) (bs y)).run Tryz.prog W = .ok (.string (bs (x ++ y))) W := fun W => by
  rw [← bs_append]; exact run_string_add_sum _ _ _ (by rw [bs_size, bs_size]; omega)

set_option maxRecDepth 100000 in
theorem span_any (x y : Int) (w : World) (a : Addr) (ht : Tab a w) (hx : 0 ≤ x ∧ x ≤ 1000000) (hy : 0 ≤ y ∧ y ≤ 1000000) :
    Calls Tryz.prog 73 #[.int .i64 x, .int .i64 y] w fun e w' => e = .returned (.string (bs (Fl.span x y))) ∧ Below w.heap.size w w' := by
  have l1 := Fl.itoa_len10 hx.1 hx.2
  have l2 := Fl.itoa_len10 hy.1 hy.2
  have I1 := Lib.hid (fun w ht => itoa_any x w a ht ⟨by omega, by omega⟩)
  have I2 := Lib.hid (fun w ht => itoa_any y w a ht ⟨by omega, by omega⟩)
  have HT := Lib.hid ht
  unfold Fl.span
  generalize Lib.itoa x = s1 at *; generalize Lib.itoa y = s2 at *
  have e1 := add_bs s1 [46, 46] (by simp; omega)
  have e2 := add_bs (s1 ++ [46, 46]) s2 (by simp; omega)
  generalize s1 ++ [46, 46] = s3 at *
  clear ht l1 l2 hx hy
  go_enter Tryz.func73, Tryz.ntmps73
  go_wp2_with fail
  refine (I1.out _ HT.out).mono ?_; rintro e w1 ⟨rfl, g1⟩
  have L1 := Lib.hid g1; clear g1
  go_wp2_with fail
  refine (I2.out _ (HT.out.below L1.out)).mono ?_; rintro e w2 ⟨rfl, g2⟩
  have L2 := Lib.hid (below_step L1.out g2); clear g2
  go_wp2_with fail
  go_ret
  exact ⟨rfl, L2.out⟩

set_option maxRecDepth 100000 in
theorem lineOf_any (ws : List (List UInt8)) (b off c : Nat) (w : World) (hA : StrA w (some ⟨b, off, none⟩) c (ws.map bs)) (hb : b < w.heap.size) (hw : ∀ x ∈ ws, x.length ≤ 64) (hn : ws.length ≤ 100) :
    Calls Tryz.prog 72 #[.slice (some ⟨b, off, none⟩) ws.length c] w fun e w' => e = .returned (.string (bs (Fl.line ws))) ∧ Below w.heap.size w w' := by
  have hj := Fl.join_len_le (c := 32) hw
  have hm : (ws.map bs).map (·.data.toList) = ws := by rw [List.map_map]; simp [Function.comp_def]
  have hJ := join_any b off c (ws.map bs) (bs [32]) w (fun j x hx => by
      obtain ⟨hlt, rfl⟩ := List.getElem?_eq_some_iff.1 hx
      obtain ⟨b', off', e, _, h2⟩ := hA.2.2 j hlt
      injection e with e; injection e with e1 e2; subst e1; subst e2; exact h2) hb (by simp; omega) hA.1 (by rw [hm]; simp only; omega)
  rw [hm, List.length_map] at hJ
  have HJ := Lib.hid hJ
  unfold Fl.line
  have hl : (Lib.join ws [32]).length ≤ 10000 := by omega
  clear hJ hm hj hA hb hw hn
  simp only at HJ
  generalize Lib.join ws [32] = s1 at *
  have e1 := add_bs s1 [10] (by simp; omega)
  clear hl
  go_enter Tryz.func72, Tryz.ntmps72
  go_wp2_with fail
  refine HJ.out.mono ?_; rintro e w1 ⟨rfl, g1⟩
  have L1 := Lib.hid g1; clear g1
  go_wp2_with fail
  go_ret
  exact ⟨rfl, L1.out⟩

theorem numberList1_any (k n : Int) (w : World) (a : Addr) (ht : Tab a w) (hn : Fits n) :
    Calls Tryz.prog 89 #[.int .i64 k, .int .i64 n] w fun e w' => e = .returned (.string (bs (Lib.itoa n))) ∧ Below w.heap.size w w' := by
  have I1 := Lib.hid (itoa_any n w a ht hn)
  clear ht
  go_enter Tryz.func89, Tryz.ntmps89
  go_wp2_with fail
  refine I1.out.mono ?_; rintro e w1 ⟨rfl, g1⟩
  have L1 := Lib.hid g1; clear g1
  go_wp2_with fail
  go_ret
  exact ⟨rfl, L1.out⟩

/-! ### joining -/
theorem join_take_succ (ss : List (List UInt8)) (mark : List UInt8) (k : Nat) (h : k < ss.length) : Lib.join (ss.take (k + 1)) mark = if k = 0 then ss[k] else Lib.join (ss.take k) mark ++ mark ++ ss[k] := by
  cases ss with
  | nil => simp at h
  | cons s ss =>
    cases k with
    | zero => simp [Lib.join_one]
    | succ k =>
      rw [if_neg (by omega), List.take_succ_cons, Lib.join_cons, List.take_succ_cons, Lib.join_cons]
      have hk : k < ss.length := by simpa using h
      rw [Lib.joinTail_take_succ mark ss k ss[k] (by simp [hk])]
      simp [List.append_assoc]
theorem join_take_all (ss : List (List UInt8)) (mark : List UInt8) : Lib.join (ss.take ss.length) mark = Lib.join ss mark := by rw [List.take_length]
/-- The builder while it is filled. -/
abbrev BldAt (B : Nat) (acc : List UInt8) (w : World) : Prop := Lib.IsBuilderF 106 5 B B (Lib.byteCells acc) w
theorem BldAt.new (w : World) : BldAt w.heap.size [] (w.alloc (.cells #[.pointer none, .slice none 0 0] 106)) :=
  .inl ⟨Nat.le_refl _, .slice none 0 0, heap_alloc_new w _, ⟨rfl, .inl ⟨rfl, rfl⟩⟩, by simp [Value.ownBlock]⟩
theorem ownF_below {w w' : World} {base : Nat} {e : TypeId} {size : Nat} {v : Value} {n : Nat} {xs : List Value} (h : w.ownsRowF base e size v n xs) (hb : Below w.heap.size w w') : w'.ownsRowF base e size v n xs := by
  obtain ⟨h1, h2 | ⟨g, cap, cur, fz, h2, h3, h4, h5⟩⟩ := h
  · exact ⟨h1, .inl h2⟩
  · exact ⟨h1, .inr ⟨g, cap, cur, fz, h2, h3, (hb.block _ (lt_of_block h4)).trans h4, h5⟩⟩
theorem BldAt.below {B : Nat} {acc : List UInt8} {w w' : World} (h : BldAt B acc w) (hb : Below w.heap.size w w') : BldAt B acc w' := by
  rcases h with ⟨h1, v, h2, h3, h4⟩ | ⟨h1, v, h2, h3, h4⟩
  · exact .inl ⟨h1, v, (hb.block _ (lt_of_block h2)).trans h2, ownF_below h3 hb, h4⟩
  · exact .inr ⟨h1, v, (hb.block _ (lt_of_block h2)).trans h2, ownF_below h3 hb, h4⟩
theorem BldAt.lt {B : Nat} {acc : List UInt8} {w : World} (h : BldAt B acc w) : B < w.heap.size := by
  rcases h with ⟨_, v, h2, _⟩ | ⟨_, v, h2, _⟩ <;> exact lt_of_block h2
theorem write_any (B : Nat) (acc s : List UInt8) (w : World) (h : BldAt B acc w) (hl : acc.length + s.length ≤ 1000000) (hB : B ≤ w.heap.size) :
    Calls Tryz.prog 74 #[.pointer (some ⟨B, 0, none⟩), .string (bs s)] w fun e w' => e = .returned (.tuple #[.int .i64 s.length, .nilIface]) ∧ BldAt B (acc ++ s) w' ∧ Below B w w' ∧ Lib.OthersKept 5 (some B) w w' := by
  have := writeString_any B B (Lib.byteCells acc) (bs s) w h (by rw [Lib.byteCells_length, bs_size]; omega) hB
  rw [bs_size, Lib.strCells_eq, ← Lib.byteCells_append] at this
  exact this.mono fun _ _ ⟨h1, h2, h3, h4⟩ => ⟨h1, .inr h2, h3, h4⟩
theorem build_any (B : Nat) (acc : List UInt8) (w : World) (h : BldAt B acc w) (hB : B ≤ w.heap.size) :
    Calls Tryz.prog 75 #[.pointer (some ⟨B, 0, none⟩)] w fun e w' => e = .returned (.string (bs acc)) ∧ Below B w w' := (bString_any B B acc w h hB).mono fun _ _ ⟨h1, _, h3, _⟩ => ⟨h1, h3⟩

set_option maxRecDepth 100000 in
set_option maxHeartbeats 2000000 in
theorem joinedInt_any (L : List Int) (a : Option Addr) (c : Nat) (w : World) (t : Addr) (ht : Tab t w) (hA : IntA w a c L) (hL : L.length ≤ 100) (hx : ∀ x ∈ L, 0 ≤ x ∧ x ≤ 1000000) :
    Calls Tryz.prog 88 #[.slice a L.length c, .string (bs [44]), .func (.func 89) #[] #[]] w fun e w' => e = .returned (.string (bs (Lib.join (L.map Lib.itoa) [44]))) ∧ Below w.heap.size w w' := by
  have HA := Lib.hid hA; have HT := Lib.hid ht
  have hlen : L.length ≤ 100 := hL
  have HL : Hid (∀ k, (Lib.join ((L.map Lib.itoa).take k) [44]).length ≤ 10000) := Lib.hid fun k => by
    have := Fl.join_len_le (c := 44) (m := 7) (ws := (L.map Lib.itoa).take k) (by
      intro y hy
      have hy := List.mem_of_mem_take hy
      rw [List.mem_map] at hy
      obtain ⟨x, hx', rfl⟩ := hy
      exact Fl.itoa_len10 (hx x hx').1 (hx x hx').2)
    have h2 : ((L.map Lib.itoa).take k).length ≤ 100 := by rw [List.length_take, List.length_map]; omega
    have : ((L.map Lib.itoa).take k).length * (7 + 1) ≤ 100 * 8 := Nat.mul_le_mul h2 (by decide)
    omega
  have HX := Lib.hid hx
  have B0 := Lib.hid (BldAt.new w)
  clear hA ht hL hx
  go_enter Tryz.func88, Tryz.ntmps88
  go_wp2_with fail
  go_loopw [12] (fun i wr => ∃ k : Nat, k ≤ L.length ∧ i = .int .i64 (k : Int) ∧ Below w.heap.size w wr ∧ Hid (BldAt w.heap.size (Lib.join ((L.map Lib.itoa).take k) [44]) wr)) (fun i _ => L.length - (intOf i).toNat)
  case atStart => exact ⟨0, Nat.zero_le _, rfl, below_new _ _, B0⟩
  case round =>
    obtain ⟨k, hk, rfl, hb, hbld⟩ := hrel
    by_cases hlt : k < L.length
    · obtain ⟨b, off, rfl, hbb, hc⟩ := (HA.out.below hb).at (by omega)
      have c0 := hc k hlt
      have hX := HX.out L[k] (List.getElem_mem hlt)
      have HJ := Lib.hid (join_take_succ (L.map Lib.itoa) [44] k (by simpa using hlt))
      have hg : (L.map Lib.itoa)[k]'(by simpa using hlt) = Lib.itoa L[k] := by simp
      rw [hg] at HJ
      clear hc hg
      generalize L[k] = x at *
      have TR := Lib.hid (HT.out.below hb)
      have HB := Lib.hid hb
      have hl0 := HL.out k; have hl1 := HL.out (k + 1)
      have hxl := Fl.itoa_len10 hX.1 hX.2
      have NL := Lib.hid (fun i w ht => numberList1_any i x w t ht ⟨by omega, by omega⟩)
      have HLS := Lib.hid (And.intro hl0 hxl)
      clear hb hl0 hl1 hxl hX
      rcases Nat.eq_zero_or_pos k with rfl | hpos
      · rw [if_pos rfl] at HJ
        rw [Nat.add_zero] at c0
        have e0 : Lib.join ((L.map Lib.itoa).take 0) [44] = [] := rfl
        have BL := Lib.hid (show BldAt w.heap.size [] wr by have := hbld.out; rwa [e0] at this)
        clear hbld e0
        go_wp2_with fail
        refine (NL.out _ _ TR.out).mono ?_; rintro e w1 ⟨rfl, g1⟩
        have B1 := Lib.hid (BL.out.below g1); have L1 := Lib.hid (below_step HB.out g1); clear g1
        go_wp2_with fail
        refine (write_any _ _ _ _ B1.out (by have := HLS.out.2; simp; omega) L1.out.size).mono ?_; rintro e w2 ⟨rfl, b2, g2, -⟩
        have B2 := Lib.hid b2; have L2 := Lib.hid (L1.out.trans g2); clear b2 g2
        go_wp2_with fail
        go_roundw
        case rel => exact ⟨1, by omega, rfl, L2.out, Lib.hid (by rw [HJ.out]; exact B2.out)⟩
        case measure => simp [intOf]; omega
      · rw [if_neg (by omega)] at HJ
        have hp : decide ((0 : Int) < (k : Int)) = true := decide_eq_true (by omega)
        go_wp2_with fail
        refine (write_any _ _ _ _ hbld.out (by have := HLS.out.1; simp; omega) HB.out.size).mono ?_; rintro e w0 ⟨rfl, b0, g0, -⟩
        have BM := Lib.hid b0; have L0 := Lib.hid (HB.out.trans g0); have T0 := Lib.hid (HT.out.below L0.out); clear b0 g0
        go_wp2_with fail
        refine (NL.out _ _ T0.out).mono ?_; rintro e w1 ⟨rfl, g1⟩
        have B1 := Lib.hid (BM.out.below g1); have L1 := Lib.hid (below_step L0.out g1); clear g1
        go_wp2_with fail
        refine (write_any _ _ _ _ B1.out (by have := HLS.out; simp; omega) L1.out.size).mono ?_; rintro e w2 ⟨rfl, b2, g2, -⟩
        have B2 := Lib.hid b2; have L2 := Lib.hid (L1.out.trans g2); clear b2 g2
        go_wp2_with fail
        go_roundw
        case rel => exact ⟨k + 1, by omega, by go_num, L2.out, Lib.hid (by rw [HJ.out]; exact B2.out)⟩
        case measure => simp [intOf]; omega
    · obtain rfl : k = L.length := by omega
      have HB := Lib.hid hb
      have BL := Lib.hid (show BldAt w.heap.size (Lib.join (L.map Lib.itoa) [44]) wr by
        have := hbld.out
        rw [show (L.map Lib.itoa).take L.length = L.map Lib.itoa by rw [← List.length_map (f := Lib.itoa), List.take_length]] at this
        exact this)
      clear hb hbld
      go_wp2_with fail
      refine (build_any _ _ _ BL.out HB.out.size).mono ?_; rintro e w2 ⟨rfl, g2⟩
      have L2 := Lib.hid (HB.out.trans g2); clear g2
      go_wp2_with fail
      go_ret
      exact ⟨rfl, L2.out⟩
theorem numberList_any (L : List Int) (a : Option Addr) (c : Nat) (w : World) (t : Addr) (ht : Tab t w) (hA : IntA w a c L) (hL : L.length ≤ 100) (hx : ∀ x ∈ L, 0 ≤ x ∧ x ≤ 1000000) :
    Calls Tryz.prog 77 #[.slice a L.length c] w fun e w' => e = .returned (.string (bs (Fl.nums L))) ∧ Below w.heap.size w w' := by
  have HJ := Lib.hid (joinedInt_any L a c w t ht hA hL hx)
  clear ht hA hx
  unfold Fl.nums
  by_cases h0 : L = []
  · subst h0
    rw [if_pos rfl]
    go_enter Tryz.func77, Tryz.ntmps77
    go_wp2_with fail
    go_ret
    exact ⟨rfl, Below.refl _ _⟩
  · rw [if_neg h0]
    have h1 : ((L.length : Int) == 0) = false := by
      have : 0 < L.length := List.length_pos_iff.2 h0
      rw [beq_eq_false_iff_ne]; omega
    clear h0
    go_enter Tryz.func77, Tryz.ntmps77
    go_wp2_with fail
    refine HJ.out.mono ?_; rintro e w1 ⟨rfl, g1⟩
    have L1 := Lib.hid g1; clear g1
    go_wp2_with fail
    go_ret
    exact ⟨rfl, L1.out⟩
end Go.Proofs.YtcaclijkkbhfhaaGreatDoor
